/- Contract of the document's Place: the list of the places in order, in new memory. -/
import Derived.Test.YtgdbjbkmkdkhhaaRefSets2
import Derived.Test.YtgdbjbkmkdkhhaaKeepInts
import Derived.Test.YtgdbjbkmkdkhhaaSetsMath
namespace Go.Proofs.Ytgdbjbkmkdkhhaa
open Go.RowKit

def castL (p : List Nat) : List Int := List.map (fun n : Nat => (n : Int)) p
theorem castL_len (p : List Nat) : (castL p).length = p.length := by simp [castL]
theorem castL_put (p : List Nat) (j k : Nat) : (castL p).take j ++ [(k : Int)] ++ (castL p).drop j = castL (p.take j ++ k :: p.drop j) := by simp [castL]
theorem castL_getD (p : List Nat) (i : Nat) : (castL p).getD i 0 = (p.getD i 0 : Nat) := by
  rw [List.getD_eq_getElem?_getD, List.getD_eq_getElem?_getD, castL, List.getElem?_map]
  cases p[i]? <;> rfl
theorem castL_inj : ∀ {p q : List Nat}, castL p = castL q → p = q
  | [], [], _ => rfl
  | [], _ :: _, h => by simp [castL] at h
  | _ :: _, [], h => by simp [castL] at h
  | a :: p, b :: q, h => by
    simp only [castL, List.map_cons, List.cons.injEq] at h
    rw [castL_inj (p := p) (q := q) h.2, Int.ofNat.inj h.1]

/-- the tail of a round: what was read is put in its place -/
theorem place_mem {l : List (List Int)} {n i : Nat} {p : List Nat} (h : IsPl l n p) (hi : i < p.length) : p.getD i 0 < n := by
  rw [List.getD_eq_getElem?_getD, List.getElem?_eq_getElem hi]
  exact h.lt (List.getElem_mem hi)

set_option maxHeartbeats 1000000 in
theorem refPlace (v : Value) (l : List (List Int)) (w : World) (h1 : Rws w v l) (hl : l.length ≤ 1000000) :
    Calls Try.prog 11 #[v] w fun e w' => ∃ v' p, e = .returned v' ∧ IsPl l l.length p ∧ Own .i64 3 w.heap.size w' v' (castL p) ∧ Below w.heap.size w w' := by
  obtain ⟨vs1, l1, s1, r1⟩ := h1
  obtain ⟨a1, cap1, rfl, q1, m1, h1⟩ := s1
  rw [l1] at q1 h1 ⊢
  obtain ⟨len, hlen⟩ : ∃ len, len = l.length := ⟨_, rfl⟩
  rw [← hlen] at q1 h1 r1 hl ⊢
  clear hlen l1 m1
  rcases Nat.eq_zero_or_pos len with h0 | h0
  · subst h0
    clear h1 r1 q1
    go_enter Try.func11, Try.ntmps11
    go_wp2
    go_loopw [3, 4] (fun o i wr => o = .slice none 0 0 ∧ i = .int .i64 0 ∧ wr = w) (fun _ _ _ => 0)
    case atStart => exact ⟨rfl, rfl, rfl⟩
    case round =>
      obtain ⟨rfl, rfl, rfl⟩ := hrel
      go_wp2
      go_ret
      exact ⟨_, [], rfl, place_nil _, Own.nil _ _ _ _, Below.refl _ _⟩
  · rcases h1 with hc | ⟨b1, o1, rfl, hb1, c1⟩
    · omega
    have hb1' := hb1 h0
    clear q1 hb1
    have C1 := hid c1
    have R1 := hid r1
    clear c1 r1
    go_enter Try.func11, Try.ntmps11
    go_wp2
    go_loopw [3, 4] (fun ov iv wr => ∃ (k : Nat) (p : List Nat), k ≤ len ∧ iv = .int .i64 k ∧ Hid (IsPl l k p) ∧ Hid (Own .i64 3 w.heap.size wr ov (castL p)) ∧ Hid (Below w.heap.size w wr) ∧ w.heap.size ≤ wr.heap.size) (fun _ iv _ => len - (intOf iv).toNat)
    case atStart => exact ⟨0, [], by omega, rfl, place_nil _, Own.nil _ _ _ _, Below.refl _ _, Nat.le_refl _⟩
    case round =>
      obtain ⟨k, p, hk, rfl, hip, hown, hbel, hsz⟩ := hrel
      by_cases hlt : k < len
      · have hsl := hid hown.out.sl
        have hpl : p.length = k := hip.out.len
        obtain ⟨a2, c2, rfl, q2, -, h2⟩ := hown.out.sl
        rw [castL_len, hpl] at q2 h2 hsl hown
        rw [castL_len, hpl]
        have dk := (hbel.out.cell (p := ⟨b1, o1 + k, none⟩) hb1').trans (C1.out k hlt)
        have ek := hid ((R1.out k hlt).below hbel.out)
        have HPL := hid hpl
        have HRK : Hid (l.getD k [] = rowAt l k) := rfl
        rw [HRK.out] at ek
        generalize vs1.getD k undef = uk at dk ek
        obtain ⟨X, hX⟩ : ∃ X, X = rowAt l k := ⟨_, rfl⟩
        rw [← hX] at ek
        have HX := hid hX
        have H2 := hid h2
        clear hX h2 hpl
        go_wp2_with (fail)
        go_loopw [5] (fun kv wi => ∃ (j n : Nat), j ≤ k ∧ kv = .int .i64 j ∧ wi = wr.drewN n ∧ Hid (∀ i, j ≤ i → i < k → cmpS X (rowAt l (p.getD i 0)) < 0)) (fun kv _ => (intOf kv).toNat)
        case atStart => exact ⟨k, 0, by omega, rfl, rfl, fun i hi1 hi2 => absurd hi1 (by omega)⟩
        case round =>
          obtain ⟨j, n, hj, rfl, rfl, hall⟩ := hrel
          rcases Nat.eq_zero_or_pos j with hj0 | hj0
          · subst hj0
            go_wp2_with (fail)
            go_quiet (fail)
            have HIP := hid (place_put (k := 0) hip.out (by rw [HPL.out]; omega) (fun i hi1 hi2 => by rw [← HX.out]; exact hall.out i hi1 (by rw [HPL.out] at hi2; exact hi2)) (.inl rfl))
            have HCT := hid (castL_put p 0 k)
            clear hall
            obtain ⟨CA, hCA⟩ : ∃ CA, CA = (castL p).take 0 := ⟨_, rfl⟩
            obtain ⟨CB, hCB⟩ : ∃ CB, CB = (castL p).drop 0 := ⟨_, rfl⟩
            have hla : CA.length ≤ 1000000 := by rw [hCA, List.length_take]; clear hown hsl H2; omega
            have hlb : CB.length ≤ 1000000 := by rw [hCB, List.length_drop, castL_len, HPL.out]; clear hown hsl H2; omega
            rw [← hCA, ← hCB] at HCT
            have HCA := hid hCA
            have HCB := hid hCB
            have HLP : Hid ((castL p).length = k) := hid (by rw [castL_len]; exact HPL.out)
            clear hCA hCB
            go_wp2_with (first
              | (with_reducible refine at_to ?_; refine wpList_to _ rfl _ _ 26 rfl .i64 3 8 Try.underlying26 Try.infoI64 _ (castL p) rfl (hsl.out.below (by (repeat (first | exact Below.refl _ _ | exact below_drewN _ | refine Below.drew ?_ | refine Below.alloc ?_ (by simp) _ | refine Below.setCell ?_ (by simp) _ | refine below_drewN' ?_ _)))) .i64 ((0 : Nat) : Int) rfl (by omega) (by rw [HLP.out]; omega) ?_; rw [Int.toNat_natCast, ← HCA.out]; intro v3 hv3; have HV3 := hid hv3; clear hv3)
              | (go_at_call 25; refine (keepTwinInts v3 CA (wr.drewN (n + nq)) HV3.out (by omega)).mono ?_; rintro e w4 ⟨v4, rfl, ho4, hb4⟩; have HO4 : Hid (Own .i64 3 wr.heap.size w4 v4 CA) := hid ho4; have HB4 : Hid (Below wr.heap.size wr w4) := hid ((below_drewN (n + nq)).trans hb4); have hz4 := hb4.size; clear ho4 hb4; simp at hz4)
              | (at_builtin; refine wpList_app _ rfl _ _ 26 rfl .i64 wr.heap.size 3 8 Try.underlying26 Try.infoI64 _ CA [(k : Int)] rfl (HO4.out.below (by (repeat (first | exact Below.refl _ _ | exact below_drewN _ | refine Below.drew ?_ | refine Below.alloc ?_ (by simp) _ | refine Below.setCell ?_ (by simp) _ | refine below_drewN' ?_ _)))) _ rfl (one_sl (by first | simp | rfl)) (by unfold maxLen; first | omega | (simp; omega) | simp) (by first | omega | (simp; omega) | simp) (by first | omega | (simp; omega) | simp) ?_; intro v5 w5 ho5 hg5 hb5 hn5; have HO5 := hid ho5; have HB5 := hid (HB4.out.trans (Below.trans (by (repeat (first | exact Below.refl _ _ | exact below_drewN _ | refine Below.drew ?_ | refine Below.alloc ?_ (by first | omega | (simp; done) | (simp; omega)) _ | refine Below.setCell ?_ (by first | (simp; done) | (simp; omega)) _ | refine below_drewN' ?_ _))) hb5)); have hz5 := hb5.size; clear ho5 hg5 hn5 hb5; simp at hz5; obtain ⟨a5, c5, hv5⟩ := HO5.out.sl.form; rw [show (CA ++ [(k : Int)]).length = CA.length + 1 by simp] at hv5; subst hv5)
              | (with_reducible refine at_from ?_; go_loud (refine wpList_from _ rfl _ _ 26 rfl .i64 3 8 Try.underlying26 Try.infoI64 (.slice a2 k c2) (castL p) rfl (hsl.out.below HB5.out) .i64 ((0 : Nat) : Int) rfl (by omega) (by rw [HLP.out]; omega) ?_); rw [Int.toNat_natCast, ← HCB.out]; intro v6 hv6; have HV6 := hid hv6; clear hv6)
              | (at_builtin; refine wpList_app _ rfl _ _ 26 rfl .i64 wr.heap.size 3 8 Try.underlying26 Try.infoI64 _ (CA ++ [(k : Int)]) CB rfl (HO5.out.below (by (repeat (first | exact Below.refl _ _ | exact below_drewN _ | refine Below.drew ?_ | refine Below.alloc ?_ (by simp) _ | refine Below.setCell ?_ (by simp) _ | refine below_drewN' ?_ _)))) _ rfl (HV6.out.below (by (repeat (first | exact Below.refl _ _ | exact below_drewN _ | refine Below.drew ?_ | refine Below.alloc ?_ (by simp) _ | refine Below.setCell ?_ (by simp) _ | refine below_drewN' ?_ _)))) (by unfold maxLen; simp; omega) (by first | omega | (simp; omega) | simp) (by first | omega | (simp; omega) | simp) ?_; intro v7 w7 ho7 hg7 hb7 hn7; rw [HCT.out] at ho7; have HO7 := hid ho7; have HB7 := hid (HB5.out.trans hb7); have hz7 := hb7.size; clear ho7 hg7 hn7 hb7))
            go_roundw
            case rel => exact ⟨k + 1, _, by omega, by go_num, HIP.out, HO7.out.mono (by omega), hbel.out.trans (HB7.out.mono hsz), by omega⟩
            case measure => simp [intOf]; omega
          · obtain ⟨m, rfl⟩ : ∃ m, j = m + 1 := ⟨j - 1, by omega⟩
            have hpm := place_mem hip.out (i := m) (by rw [HPL.out]; omega)
            obtain ⟨q, hq⟩ : ∃ q, q = p.getD m 0 := ⟨_, rfl⟩
            rcases H2.out with hc | ⟨b2, o2, hab, hb2, c2'⟩
            · omega
            have d2 := c2' m (by omega)
            rw [castL_getD, ← hq] at d2
            rw [← hq] at hpm
            have d3 := (hbel.out.cell (p := ⟨b1, o1 + q, none⟩) hb1').trans (C1.out q (by omega))
            have e3 := hid ((R1.out q (by omega)).below hbel.out)
            have HRQ : Hid (l.getD q [] = rowAt l q) := rfl
            rw [HRQ.out] at e3
            obtain ⟨Y, hY⟩ : ∃ Y, Y = rowAt l q := ⟨_, rfl⟩
            rw [← hY] at e3
            have HY := hid hY
            have HQ := hid hq
            clear hY hq c2' hb2
            subst hab
            generalize vs1.getD q undef = uq at d3 e3
            go_wp2_with (fail)
            go_quiet (first | (go_at_call 16; exact quiet_at (refCompare uk uq X Y _ (ek.out.drewN _) (e3.out.drewN _))))
            by_cases he : cmpS X Y < 0
            · have HN : Hid (∀ i, m ≤ i → i < k → cmpS X (rowAt l (p.getD i 0)) < 0) := hid fun i hi1 hi2 => by
                rcases Nat.lt_or_ge m i with h | h
                · exact hall.out i h hi2
                · obtain rfl : i = m := by omega
                  rw [← HQ.out, ← HY.out]; exact he
              generalize cmpS X Y = c at he
              go_wp2_with (fail)
              go_roundw
              case rel => exact ⟨m, _, by omega, rfl, rfl, HN.out⟩
              case measure => simp [intOf] <;> omega
            · have HA : Hid (m + 1 = 0 ∨ 0 ≤ cmpS (rowAt l k) (rowAt l (p.getD (m + 1 - 1) 0))) := hid (.inr (by rw [Nat.add_sub_cancel, ← HX.out, ← HQ.out, ← HY.out]; omega))
              generalize cmpS X Y = c at he
              have HIP := hid (place_put (k := (m + 1)) hip.out (by rw [HPL.out]; omega) (fun i hi1 hi2 => by rw [← HX.out]; exact hall.out i hi1 (by rw [HPL.out] at hi2; exact hi2)) HA.out)
              have HCT := hid (castL_put p (m + 1) k)
              clear hall
              obtain ⟨CA, hCA⟩ : ∃ CA, CA = (castL p).take (m + 1) := ⟨_, rfl⟩
              obtain ⟨CB, hCB⟩ : ∃ CB, CB = (castL p).drop (m + 1) := ⟨_, rfl⟩
              have hla : CA.length ≤ 1000000 := by rw [hCA, List.length_take]; clear hown hsl H2; omega
              have hlb : CB.length ≤ 1000000 := by rw [hCB, List.length_drop, castL_len, HPL.out]; clear hown hsl H2; omega
              rw [← hCA, ← hCB] at HCT
              have HCA := hid hCA
              have HCB := hid hCB
              have HLP : Hid ((castL p).length = k) := hid (by rw [castL_len]; exact HPL.out)
              clear hCA hCB
              go_wp2_with (first
                | (with_reducible refine at_to ?_; refine wpList_to _ rfl _ _ 26 rfl .i64 3 8 Try.underlying26 Try.infoI64 _ (castL p) rfl (hsl.out.below (by (repeat (first | exact Below.refl _ _ | exact below_drewN _ | refine Below.drew ?_ | refine Below.alloc ?_ (by simp) _ | refine Below.setCell ?_ (by simp) _ | refine below_drewN' ?_ _)))) .i64 (((m + 1) : Nat) : Int) rfl (by omega) (by rw [HLP.out]; omega) ?_; rw [Int.toNat_natCast, ← HCA.out]; intro v3 hv3; have HV3 := hid hv3; clear hv3)
                | (go_at_call 25; refine (keepTwinInts v3 CA (wr.drewN (n + nq)) HV3.out (by omega)).mono ?_; rintro e w4 ⟨v4, rfl, ho4, hb4⟩; have HO4 : Hid (Own .i64 3 wr.heap.size w4 v4 CA) := hid ho4; have HB4 : Hid (Below wr.heap.size wr w4) := hid ((below_drewN (n + nq)).trans hb4); have hz4 := hb4.size; clear ho4 hb4; simp at hz4)
                | (at_builtin; refine wpList_app _ rfl _ _ 26 rfl .i64 wr.heap.size 3 8 Try.underlying26 Try.infoI64 _ CA [(k : Int)] rfl (HO4.out.below (by (repeat (first | exact Below.refl _ _ | exact below_drewN _ | refine Below.drew ?_ | refine Below.alloc ?_ (by simp) _ | refine Below.setCell ?_ (by simp) _ | refine below_drewN' ?_ _)))) _ rfl (one_sl (by first | simp | rfl)) (by unfold maxLen; first | omega | (simp; omega) | simp) (by first | omega | (simp; omega) | simp) (by first | omega | (simp; omega) | simp) ?_; intro v5 w5 ho5 hg5 hb5 hn5; have HO5 := hid ho5; have HB5 := hid (HB4.out.trans (Below.trans (by (repeat (first | exact Below.refl _ _ | exact below_drewN _ | refine Below.drew ?_ | refine Below.alloc ?_ (by first | omega | (simp; done) | (simp; omega)) _ | refine Below.setCell ?_ (by first | (simp; done) | (simp; omega)) _ | refine below_drewN' ?_ _))) hb5)); have hz5 := hb5.size; clear ho5 hg5 hn5 hb5; simp at hz5; obtain ⟨a5, c5, hv5⟩ := HO5.out.sl.form; rw [show (CA ++ [(k : Int)]).length = CA.length + 1 by simp] at hv5; subst hv5)
                | (with_reducible refine at_from ?_; go_loud (refine wpList_from _ rfl _ _ 26 rfl .i64 3 8 Try.underlying26 Try.infoI64 (.slice (some ⟨b2, o2, none⟩) k c2) (castL p) rfl (hsl.out.below HB5.out) .i64 (((m + 1) : Nat) : Int) rfl (by omega) (by rw [HLP.out]; omega) ?_); rw [Int.toNat_natCast, ← HCB.out]; intro v6 hv6; have HV6 := hid hv6; clear hv6)
                | (at_builtin; refine wpList_app _ rfl _ _ 26 rfl .i64 wr.heap.size 3 8 Try.underlying26 Try.infoI64 _ (CA ++ [(k : Int)]) CB rfl (HO5.out.below (by (repeat (first | exact Below.refl _ _ | exact below_drewN _ | refine Below.drew ?_ | refine Below.alloc ?_ (by simp) _ | refine Below.setCell ?_ (by simp) _ | refine below_drewN' ?_ _)))) _ rfl (HV6.out.below (by (repeat (first | exact Below.refl _ _ | exact below_drewN _ | refine Below.drew ?_ | refine Below.alloc ?_ (by simp) _ | refine Below.setCell ?_ (by simp) _ | refine below_drewN' ?_ _)))) (by unfold maxLen; simp; omega) (by first | omega | (simp; omega) | simp) (by first | omega | (simp; omega) | simp) ?_; intro v7 w7 ho7 hg7 hb7 hn7; rw [HCT.out] at ho7; have HO7 := hid ho7; have HB7 := hid (HB5.out.trans hb7); have hz7 := hb7.size; clear ho7 hg7 hn7 hb7))
              go_roundw
              case rel => exact ⟨k + 1, _, by omega, by go_num, HIP.out, HO7.out.mono (by omega), hbel.out.trans (HB7.out.mono hsz), by omega⟩
              case measure => simp [intOf]; omega
      · obtain rfl : k = len := by omega
        go_wp2_with (fail)
        go_ret
        exact ⟨_, p, rfl, hip.out, hown.out, hbel.out⟩
end Go.Proofs.Ytgdbjbkmkdkhhaa
