/- Several texts in one: Utf13c, Cs16d, Cs16e, Cs16f. -/
import Derived.Test.YtildhebaikeknaaGreatPk44
import Derived.Test.YtildhebaikeknaaGreatPk2
import Derived.Test.YtildhebaikeknaaGreatPk33
import Derived.Test.YtildhebaikeknaaGreatPk19
import Derived.Test.YtildhebaikeknaaGreatPk45
import Derived.Test.YtildhebaikeknaaGreatPk15
import Derived.Test.YtildhebaikeknaaGreatPk16
/-! Utf13c -/
namespace Go.Proofs.YtildhebaikeknaaGreat
open Go.RowKit

set_option maxHeartbeats 4000000 in
theorem utfPut (v : Value) (s : List Int) (w : World) (hs : Sl .i64 w v s) (hl : s.length ≤ 100000) : Calls Tryz.prog 31 #[v] w fun e w' =>
    ∃ x, e = .returned (.tuple #[x, .int .i64 (outAt (putU s)), .int .i64 (outE 14 (putU s))]) ∧ Own .u8 5 w.heap.size w' x (outL (putU s)) ∧ Below w.heap.size w w' := by
  obtain ⟨a1, cap1, rfl, q1, -, h1⟩ := hs
  obtain ⟨n, hn⟩ : ∃ n, n = s.length := ⟨_, rfl⟩
  have HN := hid hn
  have H1 := hid h1
  rw [← hn] at q1 hl ⊢
  clear h1 hn
  go_enter Tryz.func31, Tryz.ntmps31
  go_wp2
  go_loopw [2, 9] (fun bv iv wr => ∃ (j : Nat) (x : List Int), j ≤ n ∧ iv = .int .i64 j ∧ Hid (Own .u8 5 w.heap.size wr bv x) ∧ Hid (Below w.heap.size w wr) ∧ Hid (putU (s.take j) = .inl x) ∧ x.length ≤ 4 * j) (fun _ iv _ => n - (intOf iv).toNat)
  case atStart => exact ⟨0, [], by omega, rfl, Own.nil _ _ _ _, Below.refl _ _, by show putU (s.take 0) = _; rfl, by simp⟩
  case round =>
    obtain ⟨j, x, hj, rfl, hown, hbel, hput, hxl⟩ := hrel
    by_cases hlt : j < n
    · rcases H1.out with hcc | ⟨b1, o1, rfl, hb1, hc⟩
      · omega
      have hb1' := hb1 (by have := HN.out; omega)
      have d1 := (hbel.out.cell (p := ⟨b1, o1 + j, none⟩) hb1').trans (hc j (by have := HN.out; omega))
      obtain ⟨p1, p2⟩ := put_part (by have := HN.out; omega) hput.out
      clear hc hb1 hb1'
      generalize s.getD j 0 = c at d1 p1 p2
      cases hsc : scalarB c with
      | false =>
        have HSC := hid hsc
        have HP := hid (p1 hsc)
        clear p1 p2 hsc
        go_wp2_with (go_at_call 43; refine (ucdScalar c _).mono ?_; rw [HSC.out]; rintro e w1 ⟨rfl, rfl⟩)
        go_ret3
        exact ⟨_, by rw [HP.out]; rfl, by rw [HP.out]; exact Own.nil .u8 5 _ _, hbel.out⟩
      | true =>
        have HSC := hid hsc
        have HP := hid (p2 hsc)
        clear p1 p2 hsc
        have hel := u8enc_len c
        have HX := hid (show (x ++ u8enc c).length = x.length + (u8enc c).length by simp)
        go_wp2_with (first
          | (go_at_call 43; refine (ucdScalar c _).mono ?_; rw [HSC.out]; rintro e w1 ⟨rfl, rfl⟩)
          | (go_at_call 44; refine (utfAppend _ x c w.heap.size _ HSC.out hown.out hbel.out.size (by omega)).mono ?_; rintro e w1 ⟨v1, rfl, ho1, hb1⟩; have HO5 := hid ho1; have HB5 := hid (hbel.out.trans hb1); clear ho1 hb1))
        go_roundw
        case rel => exact ⟨j + 1, x ++ u8enc c, by omega, by go_num, HO5.out, HB5.out, HP.out, by rw [HX.out]; omega⟩
        case measure => simp [intOf]; omega
    · obtain rfl : j = n := by omega
      have HP := hid (show putU s = .inl x by rw [← hput.out, HN.out, List.take_length])
      go_wp2
      go_ret3
      exact ⟨_, by rw [HP.out]; rfl, by rw [HP.out]; exact hown.out, hbel.out⟩
theorem utfPutOk : UPutOk := fun v s w hs _ hl => (utfPut v s w hs hl).mono fun _ _ ⟨x, h1, h2, h3⟩ => ⟨x, h1, h2.sl, h3⟩

end Go.Proofs.YtildhebaikeknaaGreat

/-! Cs16d -/
namespace Go.Proofs.YtildhebaikeknaaGreat
open Go.RowKit

/-- where the first one of numbers stands; -1: there is none -/
def ixI (p : Int → Bool) : List Int → Int
  | [] => -1
  | r :: l => if p r then 0 else if ixI p l < 0 then -1 else ixI p l + 1
theorem ixI_drop {p : Int → Bool} : ∀ {l : List Int} {k : Nat}, k ≤ l.length → (∀ i, i < k → p (l.getD i 0) = false) → ixI p l = if ixI p (l.drop k) < 0 then -1 else ixI p (l.drop k) + k
  | [], 0, _, _ => by simp [ixI]
  | r :: l, 0, _, _ => by
    simp only [List.drop_zero]
    unfold ixI
    by_cases h : p r = true
    · rw [if_pos h]; simp
    · rw [if_neg h]
      by_cases h2 : ixI p l < 0
      · rw [if_pos h2]; simp
      · rw [if_neg h2, if_neg (by omega)]; omega
  | [], k + 1, h, _ => by simp at h
  | r :: l, k + 1, h, ha => by
    have h0 := ha 0 (by omega)
    simp only [List.getD_cons_zero] at h0
    have ih := ixI_drop (p := p) (l := l) (k := k) (by simpa using h) fun i hi => by simpa using ha (i + 1) (by omega)
    rw [ixI, h0, List.drop_succ_cons, ih]
    simp only [Bool.false_eq_true, if_false]
    by_cases h2 : ixI p (l.drop k) < 0
    · rw [if_pos h2]; simp; omega
    · rw [if_neg h2, if_neg (by omega)]; omega
theorem ixI_hit {p : Int → Bool} {l : List Int} {k : Nat} (h : k < l.length) (ha : ∀ i, i < k → p (l.getD i 0) = false) (hk : p (l.getD k 0) = true) : ixI p l = k := by
  rw [ixI_drop (by omega) ha, List.drop_eq_getElem_cons h, ixI]
  have e : l.getD k 0 = l[k] := by rw [List.getD_eq_getElem?_getD, List.getElem?_eq_getElem h]; rfl
  rw [e] at hk
  rw [if_pos hk]
  simp
theorem ixI_none {p : Int → Bool} {l : List Int} (ha : ∀ i, i < l.length → p (l.getD i 0) = false) : ixI p l = -1 := by
  rw [ixI_drop (Nat.le_refl _) ha, List.drop_length]
  rfl
theorem firstI_or {p : Int → Bool} : ∀ (l : List Int), (∃ k, k < l.length ∧ (∀ i, i < k → p (l.getD i 0) = false) ∧ p (l.getD k 0) = true) ∨ ∀ i, i < l.length → p (l.getD i 0) = false
  | [] => .inr fun i hi => by simp at hi
  | r :: l => by
    by_cases h : p r = true
    · exact .inl ⟨0, by simp, fun i hi => by omega, by simpa using h⟩
    · rcases firstI_or (p := p) l with ⟨k, h1, h2, h3⟩ | h2
      · refine .inl ⟨k + 1, by simpa using h1, fun i hi => ?_, by simpa using h3⟩
        cases i with
        | zero => simpa using h
        | succ i => simpa using h2 i (by omega)
      · refine .inr fun i hi => ?_
        cases i with
        | zero => simpa using h
        | succ i => simpa using h2 i (by simpa using hi)
end Go.Proofs.YtildhebaikeknaaGreat

/-! Cs16e -/
namespace Go.Proofs.YtildhebaikeknaaGreat
open Go.RowKit

set_option maxHeartbeats 2000000 in
theorem csFind (s p : Int) (w : World) : Calls Tryz.prog 66 #[.int .i64 s, .int .i64 p] w fun e w' => e = .returned (.tuple #[.int .i64 (findS16 s p).1, .bool (findS16 s p).2]) ∧ Below w.heap.size w w' := by
  unfold findS16
  have hb0 : Below w.heap.size w ((w.alloc (.cells #[.int .i64 s] 3)).alloc (.cells #[.int .i64 p] 3)) := by (repeat (first | exact Below.refl _ _ | exact below_drewN _ | refine Below.drew ?_ | refine Below.alloc ?_ (by simp) _ | refine Below.setCell ?_ (by simp) _ | refine below_drewN' ?_ _))
  have HB0 := hid hb0
  have x1 := ((Box.made w 3 [.int .i64 s]).alloc (.cells #[.int .i64 p] 3)).cell 0
  have x2 := (box_last w (.cells #[.int .i64 s] 3) 3 [.int .i64 p]).cell 0
  simp only [List.getElem?_cons_zero] at x1 x2
  have X1 := hid x1
  have X2 := hid x2
  clear hb0 x1 x2
  have HF := hid (fun (w1 : World) (v : Value) (h : Sg w1 v tabCodes) (hb : Below ((w.alloc (.cells #[.int .i64 s] 3)).alloc (.cells #[.int .i64 p] 3)).heap.size ((w.alloc (.cells #[.int .i64 s] 3)).alloc (.cells #[.int .i64 p] 3)) w1) =>
    csFindFirst (fun r => r.f == s && r.v == p) w.heap.size (w.heap.size + 1) v tabCodes w1 h (fun wr hwr a b c =>
      csFindRule _ _ s p a b c wr (((hb.trans (hwr.mono hb.size)).cell (World.block_lt_of_cell? _ _ X1.out)).trans X1.out) (((hb.trans (hwr.mono hb.size)).cell (World.block_lt_of_cell? _ _ X2.out)).trans X2.out)))
  generalize fndS (fun r => r.f == s && r.v == p) tabCodes = R at HF ⊢
  obtain ⟨⟨rf, rt, rv⟩, ok⟩ := R
  simp only at HF ⊢
  have HA := hid (fun w => apiCodes w)
  generalize tabCodes = T at HF HA
  go_enter Tryz.func66, Tryz.ntmps66
  go_wp2_with (first
    | (go_at_call 79; refine (HF.out w1 _ HO1.out.sg HB1.out).mono ?_; rintro e w2 ⟨rfl, hb2⟩; have HB2 := hid ((HB0.out.trans (HB1.out.mono HB0.out.size)).trans (hb2.mono (HB0.out.trans (HB1.out.mono HB0.out.size)).size)); clear hb2)
    | (go_at_call 12; refine (HA.out _).mono ?_; rintro e w1 ⟨v1, rfl, ho1, hb1⟩; obtain ⟨a1, c1, hv1⟩ := ho1.form; obtain ⟨n1, hn1⟩ : ∃ n, n = T.length := ⟨_, rfl⟩; rw [← hn1] at hv1; subst hv1; have HO1 := hid ho1; have HB1 := hid hb1; clear ho1 hb1 hn1))
  go_ret2
  exact ⟨rfl, (HB2.out.alloc HB2.out.size _)⟩
theorem csIsLetter (c : Int) (w : World) : Calls Tryz.prog 97 #[.int .i64 c] w fun e w' => e = .returned (.bool (letB c)) ∧ w = w' := by
  by_cases h1 : 65 ≤ c
  · by_cases h2 : c ≤ 90
    · have hr := hid (show letB c = true from decide_eq_true (.inl ⟨h1, h2⟩))
      go_enter Tryz.func97, Tryz.ntmps97
      go_wp2_with (fail)
      go_ret
      exact ⟨by rw [hr.out]; rfl, rfl⟩
    · by_cases h3 : 97 ≤ c
      · obtain ⟨q, hq⟩ : ∃ q, q = decide (c ≤ 122) := ⟨_, rfl⟩
        have hr := hid (show letB c = q from by rw [hq]; unfold letB; exact decide_eq_decide.2 (by omega))
        replace hq := hq.symm
        go_enter Tryz.func97, Tryz.ntmps97
        go_wp2_with (fail)
        go_ret
        exact ⟨by rw [hr.out]; first | rfl | (rw [← hq]; rfl) | simp_all, rfl⟩
      · have hr := hid (show letB c = false from decide_eq_false (by omega))
        go_enter Tryz.func97, Tryz.ntmps97
        go_wp2_with (fail)
        go_ret
        exact ⟨by rw [hr.out]; rfl, rfl⟩
  · have h3 : ¬ 97 ≤ c := by omega
    have hr := hid (show letB c = false from decide_eq_false (by omega))
    go_enter Tryz.func97, Tryz.ntmps97
    go_wp2_with (fail)
    go_ret
    exact ⟨by rw [hr.out]; rfl, rfl⟩
end Go.Proofs.YtildhebaikeknaaGreat

/-! Cs16f -/
namespace Go.Proofs.YtildhebaikeknaaGreat
open Go.RowKit

def onL (c : Int) (l : List Int) : Int × Int × Bool := if letB (l.getD 0 0) = true then (if (fndS (fun r => r.t == l.getD 1 0) tabAccents).2 = true then (if ((pairS (l.getD 0 0) (l.getD 1 0)).2 && (pairS (l.getD 0 0) (l.getD 1 0)).1 == c) = true then ((fndS (fun r => r.t == l.getD 1 0) tabAccents).1.f, l.getD 0 0, true) else (0, 0, false)) else (0, 0, false)) else (0, 0, false)
theorem accTwo_on {c : Int} {l : List Int} (h : l.length = 2) : accTwo c l = onL c l := by
  unfold accTwo onL
  by_cases h1 : letB (l.getD 0 0) = true <;> by_cases h2 : ((pairS (l.getD 0 0) (l.getD 1 0)).2 && (pairS (l.getD 0 0) (l.getD 1 0)).1 == c) = true <;> by_cases h3 : (fndS (fun r => r.t == l.getD 1 0) tabAccents).2 = true <;> simp only [h, h1, h2, h3, and_self, and_false, if_true, if_false, Bool.false_eq_true]
theorem Sl.cells2 {k : IntKind} {w : World} {b o c : Nat} {x y : Int} (h : Sl k w (.slice (some ⟨b, o, none⟩) 2 c) [x, y]) : w.cell? ⟨b, o, none⟩ = some (.int k x) ∧ w.cell? ⟨b, o + 1, none⟩ = some (.int k y) := by
  obtain ⟨b', o', c', hv, h1, h2⟩ := h.two
  injection hv with hv1 hv2 hv3
  injection hv1 with hv1
  injection hv1 with hv1 hv4
  subst hv1 hv4
  exact ⟨h1, h2⟩
theorem onLetter_short (c : Int) (l : List Int) (w : World) (hl : canonS c = l) (hn : l.length ≠ 2) : Calls Tryz.prog 84 #[.int .i64 c] w fun e w' => e = .returned (.tuple #[.int .i64 0, .int .i64 0, .bool false]) ∧ Below w.heap.size w w' := by
  have HC := hid (fun w => ucdCanon c w)
  rw [hl] at HC
  obtain ⟨n, hN⟩ : ∃ n, n = l.length := ⟨_, rfl⟩
  have HN := hid hN
  have hq : ((n : Int) == 2) = false := by rw [beq_eq_false_iff_ne]; omega
  have hq2 : ((n : Int) != 2) = true := by rw [bne_iff_ne]; omega
  clear hl hn hN
  go_enter Tryz.func84, Tryz.ntmps84
  go_wp2_with (first
    | (go_at_call 96; refine (HC.out _).mono ?_; rintro e w1 ⟨v1, rfl, hs1, hb1⟩; obtain ⟨a1, c1, hv1⟩ := hs1.form; rw [← HN.out] at hv1; subst hv1; have HS1 := hid (hs1.below (Below.alloc (Below.refl _ _) (Nat.le_refl _) (.cells #[.slice a1 n c1] 22))); have HB1 := hid (hb1.alloc hb1.size (.cells #[.slice a1 n c1] 22)); have HX1 := hid (show Box 22 [.slice a1 n c1] w1.heap.size (w1.alloc (.cells #[.slice a1 n c1] 22)) from Box.made w1 22 [.slice a1 n c1]); have x1 := HX1.out.cell 0; have z1 := HX1.out.ice 0; simp only [List.getElem?_cons_zero] at x1; clear hs1 hb1))
  go_ret3
  exact ⟨rfl, HB1.out⟩
theorem onLetter_none (c x y : Int) (w : World) (hl : canonS c = [x, y]) (hx : letB x = false) : Calls Tryz.prog 84 #[.int .i64 c] w fun e w' => e = .returned (.tuple #[.int .i64 0, .int .i64 0, .bool false]) ∧ Below w.heap.size w w' := by
  have HC := hid (fun w => ucdCanon c w)
  rw [hl] at HC
  have HL := hid (fun w => csIsLetter x w)
  rw [hx] at HL
  clear hl hx
  go_enter Tryz.func84, Tryz.ntmps84
  go_wp2_with (first
    | (go_at_call 97; refine (HL.out _).mono ?_; rintro e wl ⟨rfl, rfl⟩)
    | (go_at_call 96; refine (HC.out _).mono ?_; rintro e w1 ⟨v1, rfl, hs1, hb1⟩; obtain ⟨b1, o1, c1, hv1, -, -⟩ := hs1.two; subst hv1; have HS1 := hid (hs1.below (Below.alloc (Below.refl _ _) (Nat.le_refl _) (.cells #[.slice (some ⟨b1, o1, none⟩) 2 c1] 22))); have HB1 := hid (hb1.alloc hb1.size (.cells #[.slice (some ⟨b1, o1, none⟩) 2 c1] 22)); have HX1 := hid (show Box 22 [.slice (some ⟨b1, o1, none⟩) 2 c1] w1.heap.size (w1.alloc (.cells #[.slice (some ⟨b1, o1, none⟩) 2 c1] 22)) from Box.made w1 22 [.slice (some ⟨b1, o1, none⟩) 2 c1]); have x1 := HX1.out.cell 0; have z1 := HX1.out.ice 0; simp only [List.getElem?_cons_zero] at x1; have DD := HS1.out.cells2; obtain ⟨d1, d2⟩ := DD; clear hs1 hb1))
  go_ret3
  exact ⟨rfl, HB1.out⟩
theorem onLetter_un (c x y : Int) (w : World) (hl : canonS c = [x, y]) (hx : letB x = true) (hr : (fndS (fun r => r.t == y) tabAccents).2 = false) : Calls Tryz.prog 84 #[.int .i64 c] w fun e w' => e = .returned (.tuple #[.int .i64 0, .int .i64 0, .bool false]) ∧ Below w.heap.size w w' := by
  have HC := hid (fun w => ucdCanon c w)
  rw [hl] at HC
  have HL := hid (fun w => csIsLetter x w)
  rw [hx] at HL
  have HF := hid (fun (B : Nat) (w1 : World) (v u : Value) (h : Sg w1 v tabAccents) (hb : Box 22 [u] B w1) (hs : Sl .i64 w1 u [x, y]) =>
    csOnLFirst (fun r => r.t == y) B v tabAccents w1 h (fun wr hwr a b c =>
      csOnLRule B u [x, y] a b c wr rfl ((hwr.cell (World.block_lt_of_cell? _ _ (hb.cell 0))).trans (hb.cell 0)) (hs.below hwr)))
  generalize fndS (fun r => r.t == y) tabAccents = R at *
  obtain ⟨⟨rf, rt, rv⟩, ok⟩ := R
  simp only at hr
  subst hr
  simp only at HF
  have HA := hid (fun w => apiAccents w)
  generalize tabAccents = T at HF HA
  clear hl hx
  go_enter Tryz.func84, Tryz.ntmps84
  go_wp2_with (first
    | (go_at_call 82; refine (HF.out w1.heap.size w2 _ _ HO2.out.sg HX2.out HS2.out).mono ?_; rintro e w3 ⟨rfl, hb3⟩; have HB3 := hid (HB2.out.trans (hb3.mono HB2.out.size)); have HX3 := hid (HX2.out.below hb3 HX2.out.lt); have HS3 := hid (HS2.out.below hb3); clear hb3)
    | (go_at_call 13; refine (HA.out _).mono ?_; rintro e w2 ⟨v2, rfl, ho2, hb2⟩; obtain ⟨a2, c2, hv2⟩ := ho2.form; obtain ⟨n2, hn2⟩ : ∃ n, n = T.length := ⟨_, rfl⟩; rw [← hn2] at hv2; subst hv2; have HO2 := hid ho2; have HB2 := hid (HB1.out.trans (hb2.mono HB1.out.size)); have HX2 := hid (HX1.out.below hb2 HX1.out.lt); have HS2 := hid (HS1.out.below hb2); have x2 := HX2.out.cell 0; have z2 := HX2.out.ice 0; simp only [List.getElem?_cons_zero] at x2; clear ho2 hb2 hn2)
    | (go_at_call 97; refine (HL.out _).mono ?_; rintro e wl ⟨rfl, rfl⟩)
    | (go_at_call 96; refine (HC.out _).mono ?_; rintro e w1 ⟨v1, rfl, hs1, hb1⟩; obtain ⟨b1, o1, c1, hv1, -, -⟩ := hs1.two; subst hv1; have HS1 := hid (hs1.below (Below.alloc (Below.refl _ _) (Nat.le_refl _) (.cells #[.slice (some ⟨b1, o1, none⟩) 2 c1] 22))); have HB1 := hid (hb1.alloc hb1.size (.cells #[.slice (some ⟨b1, o1, none⟩) 2 c1] 22)); have HX1 := hid (show Box 22 [.slice (some ⟨b1, o1, none⟩) 2 c1] w1.heap.size (w1.alloc (.cells #[.slice (some ⟨b1, o1, none⟩) 2 c1] 22)) from Box.made w1 22 [.slice (some ⟨b1, o1, none⟩) 2 c1]); have x1 := HX1.out.cell 0; have z1 := HX1.out.ice 0; simp only [List.getElem?_cons_zero] at x1; have DD := HS1.out.cells2; obtain ⟨d1, d2⟩ := DD; clear hs1 hb1))
  go_ret3
  exact ⟨rfl, HB3.out.alloc HB3.out.size _⟩
set_option maxHeartbeats 1000000 in
theorem onLetter_bad (c x y : Int) (w : World) (hl : canonS c = [x, y]) (hx : letB x = true) (hr : (fndS (fun r => r.t == y) tabAccents).2 = true) (hg : ((pairS x y).2 && (pairS x y).1 == c) = false) : Calls Tryz.prog 84 #[.int .i64 c] w fun e w' => e = .returned (.tuple #[.int .i64 0, .int .i64 0, .bool false]) ∧ Below w.heap.size w w' := by
  generalize hP : pairS x y = PP at *
  obtain ⟨pc, pk⟩ := PP
  have HQ := hid (fun w => ucdPair x y w)
  rw [hP] at HQ
  simp only at HQ hg
  clear hP
  have HC := hid (fun w => ucdCanon c w)
  rw [hl] at HC
  have HL := hid (fun w => csIsLetter x w)
  rw [hx] at HL
  have HF := hid (fun (B : Nat) (w1 : World) (v u : Value) (h : Sg w1 v tabAccents) (hb : Box 22 [u] B w1) (hs : Sl .i64 w1 u [x, y]) =>
    csOnLFirst (fun r => r.t == y) B v tabAccents w1 h (fun wr hwr a b c =>
      csOnLRule B u [x, y] a b c wr rfl ((hwr.cell (World.block_lt_of_cell? _ _ (hb.cell 0))).trans (hb.cell 0)) (hs.below hwr)))
  generalize fndS (fun r => r.t == y) tabAccents = R at *
  obtain ⟨⟨rf, rt, rv⟩, ok⟩ := R
  simp only at hr
  subst hr
  simp only at HF
  have HA := hid (fun w => apiAccents w)
  generalize tabAccents = T at HF HA
  clear hl hx
  go_enter Tryz.func84, Tryz.ntmps84
  go_wp2_with (first
    | (go_at_call 82; refine (HF.out w1.heap.size w2 _ _ HO2.out.sg HX2.out HS2.out).mono ?_; rintro e w3 ⟨rfl, hb3⟩; have HB3 := hid (HB2.out.trans (hb3.mono HB2.out.size)); have HX3 := hid (HX2.out.below hb3 HX2.out.lt); have HS3 := hid (HS2.out.below hb3); clear hb3)
    | (go_at_call 13; refine (HA.out _).mono ?_; rintro e w2 ⟨v2, rfl, ho2, hb2⟩; obtain ⟨a2, c2, hv2⟩ := ho2.form; obtain ⟨n2, hn2⟩ : ∃ n, n = T.length := ⟨_, rfl⟩; rw [← hn2] at hv2; subst hv2; have HO2 := hid ho2; have HB2 := hid (HB1.out.trans (hb2.mono HB1.out.size)); have HX2 := hid (HX1.out.below hb2 HX1.out.lt); have HS2 := hid (HS1.out.below hb2); have x2 := HX2.out.cell 0; have z2 := HX2.out.ice 0; simp only [List.getElem?_cons_zero] at x2; clear ho2 hb2 hn2)
    | (go_at_call 97; refine (HL.out _).mono ?_; rintro e wl ⟨rfl, rfl⟩)
    | (go_at_call 96; refine (HC.out _).mono ?_; rintro e w1 ⟨v1, rfl, hs1, hb1⟩; obtain ⟨b1, o1, c1, hv1, -, -⟩ := hs1.two; subst hv1; have HS1 := hid (hs1.below (Below.alloc (Below.refl _ _) (Nat.le_refl _) (.cells #[.slice (some ⟨b1, o1, none⟩) 2 c1] 22))); have HB1 := hid (hb1.alloc hb1.size (.cells #[.slice (some ⟨b1, o1, none⟩) 2 c1] 22)); have HX1 := hid (show Box 22 [.slice (some ⟨b1, o1, none⟩) 2 c1] w1.heap.size (w1.alloc (.cells #[.slice (some ⟨b1, o1, none⟩) 2 c1] 22)) from Box.made w1 22 [.slice (some ⟨b1, o1, none⟩) 2 c1]); have x1 := HX1.out.cell 0; have z1 := HX1.out.ice 0; simp only [List.getElem?_cons_zero] at x1; have DD := HS1.out.cells2; obtain ⟨d1, d2⟩ := DD; clear hs1 hb1))
  have HBX := hid (show Below w3.heap.size w3 (w3.alloc (.cells #[.int .i64 rf, .int .i64 rt, .int .i64 rv] 49)) by (repeat (first | exact Below.refl _ _ | exact below_drewN _ | refine Below.drew ?_ | refine Below.alloc ?_ (by simp) _ | refine Below.setCell ?_ (by simp) _ | refine below_drewN' ?_ _)))
  have HB4 := hid (HB3.out.trans (HBX.out.mono HB3.out.size))
  have HX4 := hid (HX3.out.below HBX.out HX3.out.lt)
  have HS4 := hid (HS3.out.below HBX.out)
  have HR4 := hid (show Box 49 [.int .i64 rf, .int .i64 rt, .int .i64 rv] w3.heap.size (w3.alloc (.cells #[.int .i64 rf, .int .i64 rt, .int .i64 rv] 49)) from Box.made w3 49 [.int .i64 rf, .int .i64 rt, .int .i64 rv])
  generalize w3.alloc (.cells #[.int .i64 rf, .int .i64 rt, .int .i64 rv] 49) = W at HBX HB4 HX4 HS4 HR4 ⊢
  have y1 := HX4.out.cell 0
  simp only [List.getElem?_cons_zero] at y1
  have s1 := fun u : Later W => u.cell y1
  have s2 := fun u : Later W => u.cell HS4.out.cells2.1
  have s3 := fun u : Later W => u.cell HS4.out.cells2.2
  have HK := hid (fun u : Later W => later_call (HQ.out u.w))
  clear y1 x1 z1 x2 z2
  refine region_later (by kernel_rfl) (by kernel_rfl) ?_
  repeat (go_big_quiet_step ((go_at_call 99; with_reducible exact HK.out _)))
  refine wpQuiet_nil ?_
  intro _ hw'
  obtain ⟨u, hw''⟩ := hw'
  subst hw''
  have HB5 := hid (HB4.out.trans (u.below.mono HB4.out.size))
  have HX5 := hid (HX4.out.below u.below HX4.out.lt)
  have HS5 := hid (HS4.out.below u.below)
  have HR5 := hid (HR4.out.below u.below HR4.out.lt)
  clear s1 s2 s3 HK
  generalize u.w = W5 at HB5 HX5 HS5 HR5 ⊢
  cases pk with
  | false =>
    go_wp2
    go_ret3
    exact ⟨rfl, HB5.out⟩
  | true =>
    have hg2 : (pc == c) = false := by simpa using hg
    have hg3 : (pc != c) = true := by simpa using hg2
    go_wp2
    go_ret3
    exact ⟨rfl, HB5.out⟩
set_option maxHeartbeats 1000000 in
theorem onLetter_good (c x y : Int) (w : World) (hl : canonS c = [x, y]) (hx : letB x = true) (hr : (fndS (fun r => r.t == y) tabAccents).2 = true) (hg : ((pairS x y).2 && (pairS x y).1 == c) = true) : Calls Tryz.prog 84 #[.int .i64 c] w fun e w' => e = .returned (.tuple #[.int .i64 (fndS (fun r => r.t == y) tabAccents).1.f, .int .i64 x, .bool true]) ∧ Below w.heap.size w w' := by
  generalize hP : pairS x y = PP at *
  obtain ⟨pc, pk⟩ := PP
  have HQ := hid (fun w => ucdPair x y w)
  rw [hP] at HQ
  simp only at HQ hg
  clear hP
  have HC := hid (fun w => ucdCanon c w)
  rw [hl] at HC
  have HL := hid (fun w => csIsLetter x w)
  rw [hx] at HL
  have HF := hid (fun (B : Nat) (w1 : World) (v u : Value) (h : Sg w1 v tabAccents) (hb : Box 22 [u] B w1) (hs : Sl .i64 w1 u [x, y]) =>
    csOnLFirst (fun r => r.t == y) B v tabAccents w1 h (fun wr hwr a b c =>
      csOnLRule B u [x, y] a b c wr rfl ((hwr.cell (World.block_lt_of_cell? _ _ (hb.cell 0))).trans (hb.cell 0)) (hs.below hwr)))
  generalize fndS (fun r => r.t == y) tabAccents = R at *
  obtain ⟨⟨rf, rt, rv⟩, ok⟩ := R
  simp only at hr
  subst hr
  simp only at HF
  have HA := hid (fun w => apiAccents w)
  generalize tabAccents = T at HF HA
  clear hl hx
  go_enter Tryz.func84, Tryz.ntmps84
  go_wp2_with (first
    | (go_at_call 82; refine (HF.out w1.heap.size w2 _ _ HO2.out.sg HX2.out HS2.out).mono ?_; rintro e w3 ⟨rfl, hb3⟩; have HB3 := hid (HB2.out.trans (hb3.mono HB2.out.size)); have HX3 := hid (HX2.out.below hb3 HX2.out.lt); have HS3 := hid (HS2.out.below hb3); clear hb3)
    | (go_at_call 13; refine (HA.out _).mono ?_; rintro e w2 ⟨v2, rfl, ho2, hb2⟩; obtain ⟨a2, c2, hv2⟩ := ho2.form; obtain ⟨n2, hn2⟩ : ∃ n, n = T.length := ⟨_, rfl⟩; rw [← hn2] at hv2; subst hv2; have HO2 := hid ho2; have HB2 := hid (HB1.out.trans (hb2.mono HB1.out.size)); have HX2 := hid (HX1.out.below hb2 HX1.out.lt); have HS2 := hid (HS1.out.below hb2); have x2 := HX2.out.cell 0; have z2 := HX2.out.ice 0; simp only [List.getElem?_cons_zero] at x2; clear ho2 hb2 hn2)
    | (go_at_call 97; refine (HL.out _).mono ?_; rintro e wl ⟨rfl, rfl⟩)
    | (go_at_call 96; refine (HC.out _).mono ?_; rintro e w1 ⟨v1, rfl, hs1, hb1⟩; obtain ⟨b1, o1, c1, hv1, -, -⟩ := hs1.two; subst hv1; have HS1 := hid (hs1.below (Below.alloc (Below.refl _ _) (Nat.le_refl _) (.cells #[.slice (some ⟨b1, o1, none⟩) 2 c1] 22))); have HB1 := hid (hb1.alloc hb1.size (.cells #[.slice (some ⟨b1, o1, none⟩) 2 c1] 22)); have HX1 := hid (show Box 22 [.slice (some ⟨b1, o1, none⟩) 2 c1] w1.heap.size (w1.alloc (.cells #[.slice (some ⟨b1, o1, none⟩) 2 c1] 22)) from Box.made w1 22 [.slice (some ⟨b1, o1, none⟩) 2 c1]); have x1 := HX1.out.cell 0; have z1 := HX1.out.ice 0; simp only [List.getElem?_cons_zero] at x1; have DD := HS1.out.cells2; obtain ⟨d1, d2⟩ := DD; clear hs1 hb1))
  have HBX := hid (show Below w3.heap.size w3 (w3.alloc (.cells #[.int .i64 rf, .int .i64 rt, .int .i64 rv] 49)) by (repeat (first | exact Below.refl _ _ | exact below_drewN _ | refine Below.drew ?_ | refine Below.alloc ?_ (by simp) _ | refine Below.setCell ?_ (by simp) _ | refine below_drewN' ?_ _)))
  have HB4 := hid (HB3.out.trans (HBX.out.mono HB3.out.size))
  have HX4 := hid (HX3.out.below HBX.out HX3.out.lt)
  have HS4 := hid (HS3.out.below HBX.out)
  have HR4 := hid (show Box 49 [.int .i64 rf, .int .i64 rt, .int .i64 rv] w3.heap.size (w3.alloc (.cells #[.int .i64 rf, .int .i64 rt, .int .i64 rv] 49)) from Box.made w3 49 [.int .i64 rf, .int .i64 rt, .int .i64 rv])
  generalize w3.alloc (.cells #[.int .i64 rf, .int .i64 rt, .int .i64 rv] 49) = W at HBX HB4 HX4 HS4 HR4 ⊢
  have y1 := HX4.out.cell 0
  simp only [List.getElem?_cons_zero] at y1
  have s1 := fun u : Later W => u.cell y1
  have s2 := fun u : Later W => u.cell HS4.out.cells2.1
  have s3 := fun u : Later W => u.cell HS4.out.cells2.2
  have HK := hid (fun u : Later W => later_call (HQ.out u.w))
  clear y1 x1 z1 x2 z2
  refine region_later (by kernel_rfl) (by kernel_rfl) ?_
  repeat (go_big_quiet_step ((go_at_call 99; with_reducible exact HK.out _)))
  refine wpQuiet_nil ?_
  intro _ hw'
  obtain ⟨u, hw''⟩ := hw'
  subst hw''
  have HB5 := hid (HB4.out.trans (u.below.mono HB4.out.size))
  have HX5 := hid (HX4.out.below u.below HX4.out.lt)
  have HS5 := hid (HS4.out.below u.below)
  have HR5 := hid (HR4.out.below u.below HR4.out.lt)
  clear s1 s2 s3 HK
  generalize u.w = W5 at HB5 HX5 HS5 HR5 ⊢
  rw [Bool.and_eq_true] at hg
  obtain ⟨rfl, hg2⟩ := hg
  have hg3 : (pc != c) = false := by simpa using hg2
  have v1 := HX5.out.cell 0
  have v2 := HR5.out.cell 0
  have v3 := HS5.out.cells2.1
  simp only [List.getElem?_cons_zero] at v1 v2
  go_wp2
  go_quiet (fail)
  go_wp2
  go_ret3
  exact ⟨rfl, below_drewN' HB5.out _⟩
theorem csOnLetter (c : Int) (w : World) : Calls Tryz.prog 84 #[.int .i64 c] w fun e w' => e = .returned (.tuple #[.int .i64 (accTwo c (canonS c)).1, .int .i64 (accTwo c (canonS c)).2.1, .bool (accTwo c (canonS c)).2.2]) ∧ Below w.heap.size w w' := by
  obtain ⟨l, hl⟩ : ∃ l, canonS c = l := ⟨_, rfl⟩
  rw [hl]
  by_cases h2 : l.length = 2
  · rw [accTwo_on h2]
    obtain ⟨x, y, rfl⟩ : ∃ x y, l = [x, y] := by
      match l, h2 with
      | [x, y], _ => exact ⟨x, y, rfl⟩
    unfold onL
    simp only [List.getD_cons_zero, List.getD_cons_succ]
    cases hx : letB x with
    | false => exact onLetter_none c x y w hl hx
    | true =>
      cases hr : (fndS (fun r => r.t == y) tabAccents).2 with
      | false => exact onLetter_un c x y w hl hx hr
      | true =>
        cases hg : ((pairS x y).2 && (pairS x y).1 == c) with
        | false => exact onLetter_bad c x y w hl hx hr hg
        | true => exact onLetter_good c x y w hl hx hr hg
  · have e : accTwo c l = (0, 0, false) := by
      unfold accTwo
      rw [if_neg (fun h => h2 h.1)]
    rw [e]
    exact onLetter_short c l w hl h2
set_option maxHeartbeats 1000000 in
theorem csAccent (c : Int) (w : World) : Calls Tryz.prog 68 #[.int .i64 c] w fun e w' => e = .returned (.tuple #[.int .i64 (accS c).1, .int .i64 (accS c).2.1, .bool (accS c).2.2]) ∧ Below w.heap.size w w' := by
  unfold accS
  have hb0 : Below w.heap.size w (w.alloc (.cells #[.int .i64 c] 3)) := by (repeat (first | exact Below.refl _ _ | exact below_drewN _ | refine Below.drew ?_ | refine Below.alloc ?_ (by simp) _ | refine Below.setCell ?_ (by simp) _ | refine below_drewN' ?_ _))
  have HB0 := hid hb0
  have HX0 := hid (Box.made w 3 [.int .i64 c])
  have x1 := HX0.out.cell 0
  simp only [List.getElem?_cons_zero] at x1
  have X1 := hid x1
  clear hb0 x1
  have HF := hid (fun (w1 : World) (v : Value) (h : Sg w1 v tabAccents) (hb : Below (w.alloc (.cells #[.int .i64 c] 3)).heap.size (w.alloc (.cells #[.int .i64 c] 3)) w1) =>
    csAccAFirst (fun r => r.v == c) w.heap.size v tabAccents w1 h (fun wr hwr a b k =>
      csAccARule _ c a b k wr (((hb.trans (hwr.mono hb.size)).cell (World.block_lt_of_cell? _ _ X1.out)).trans X1.out)))
  have HO := hid (fun w => csOnLetter c w)
  generalize fndS (fun r => r.v == c) tabAccents = R at HF ⊢
  obtain ⟨⟨rf, rt, rv⟩, ok⟩ := R
  generalize accTwo c (canonS c) = Q at HO ⊢
  obtain ⟨q1, q2, q3⟩ := Q
  simp only at HF HO ⊢
  have HA := hid (fun w => apiAccents w)
  generalize tabAccents = T at HF HA
  cases ok with
  | true =>
    go_enter Tryz.func68, Tryz.ntmps68
    go_wp2_with (first
      | (go_at_call 82; refine (HF.out w1 _ HO1.out.sg HB1.out).mono ?_; rintro e w2 ⟨rfl, hb2⟩; have HB2 := hid ((HB0.out.trans (HB1.out.mono HB0.out.size)).trans (hb2.mono (HB0.out.trans (HB1.out.mono HB0.out.size)).size)); have HX2 := hid ((HX0.out.below HB1.out HX0.out.lt).below hb2 (HX0.out.below HB1.out HX0.out.lt).lt); have y2 := (HX2.out.alloc (.cells #[.int .i64 rf, .int .i64 rt, .int .i64 rv] 49)).cell 0; simp only [List.getElem?_cons_zero] at y2; clear hb2)
      | (go_at_call 13; refine (HA.out _).mono ?_; rintro e w1 ⟨v1, rfl, ho1, hb1⟩; obtain ⟨a1, c1, hv1⟩ := ho1.form; obtain ⟨n1, hn1⟩ : ∃ n, n = T.length := ⟨_, rfl⟩; rw [← hn1] at hv1; subst hv1; have HO1 := hid ho1; have HB1 := hid hb1; clear ho1 hb1 hn1))
    go_ret3
    exact ⟨rfl, HB2.out.alloc HB2.out.size _⟩
  | false =>
    go_enter Tryz.func68, Tryz.ntmps68
    go_wp2_with (first
      | (go_at_call 84; refine (HO.out _).mono ?_; rintro e w3 ⟨rfl, hb3⟩; have HB3 := hid ((HB2.out.alloc HB2.out.size (.cells #[.int .i64 rf, .int .i64 rt, .int .i64 rv] 49)).trans (hb3.mono (HB2.out.alloc HB2.out.size (.cells #[.int .i64 rf, .int .i64 rt, .int .i64 rv] 49)).size)); clear hb3)
      | (go_at_call 82; refine (HF.out w1 _ HO1.out.sg HB1.out).mono ?_; rintro e w2 ⟨rfl, hb2⟩; have HB2 := hid ((HB0.out.trans (HB1.out.mono HB0.out.size)).trans (hb2.mono (HB0.out.trans (HB1.out.mono HB0.out.size)).size)); have HX2 := hid ((HX0.out.below HB1.out HX0.out.lt).below hb2 (HX0.out.below HB1.out HX0.out.lt).lt); have y2 := (HX2.out.alloc (.cells #[.int .i64 rf, .int .i64 rt, .int .i64 rv] 49)).cell 0; simp only [List.getElem?_cons_zero] at y2; clear hb2)
      | (go_at_call 13; refine (HA.out _).mono ?_; rintro e w1 ⟨v1, rfl, ho1, hb1⟩; obtain ⟨a1, c1, hv1⟩ := ho1.form; obtain ⟨n1, hn1⟩ : ∃ n, n = T.length := ⟨_, rfl⟩; rw [← hn1] at hv1; subst hv1; have HO1 := hid ho1; have HB1 := hid hb1; clear ho1 hb1 hn1))
    go_ret3
    exact ⟨rfl, HB3.out⟩
end Go.Proofs.YtildhebaikeknaaGreat
