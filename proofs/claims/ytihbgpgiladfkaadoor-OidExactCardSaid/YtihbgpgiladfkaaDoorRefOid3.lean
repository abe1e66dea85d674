/- Contract of the document's own reader of an identifier's content: the identifier in new memory, or that there is none. -/
import Derived.Test.YtihbgpgiladfkaaDoorRefOid1
import Derived.Test.YtihbgpgiladfkaaDoorOid5
namespace Go.Proofs.YtihbgpgiladfkaaDoor
open Go.RowKit

/-- Where the reading stands. -/
def RdO (xs l : List Int) (o : Bool) (n : Int) (k : Nat) : Prop := readS xs = (numsS o n (xs.drop k)).bind fun ms => guardS (if l = [] then firstTwo ms else l ++ ms)
section
variable {xs l : List Int} {o : Bool} {n x : Int} {k : Nat}
theorem rdo_start (xs : List Int) : RdO xs [] false 0 0 := by unfold RdO; rfl
theorem rdo_bad (h : RdO xs l o n k) (hx : x = xs.getD k 0) (hk : k < xs.length) (hb : (o = false ∧ x = 128) ∨ 72057594037927935 < n) : readS xs = none := by
  unfold RdO at h
  rw [h, drop_getD hx hk, numsS, if_pos hb]
  rfl
theorem rdo_on (h : RdO xs l o n k) (hx : x = xs.getD k 0) (hk : k < xs.length) (hb : ¬ ((o = false ∧ x = 128) ∨ 72057594037927935 < n)) (h1 : 128 ≤ x) (h2 : x ≤ 255) : RdO xs l true (n * 128 + x % 128) (k + 1) := by
  unfold RdO at h ⊢
  rw [h, drop_getD hx hk, numsS, if_neg hb, if_pos h1, show x % 128 = x - 128 by omega]
theorem rdo_first (h : RdO xs [] o n k) (hx : x = xs.getD k 0) (hk : k < xs.length) (hb : ¬ ((o = false ∧ x = 128) ∨ 72057594037927935 < n)) (h1 : ¬ 128 ≤ x) (h2 : 0 ≤ x) {m f : Int} (hm : m = n * 128 + x % 128) (hf : f = min (m / 40) 2) :
    RdO xs [f, m - 40 * f] false 0 (k + 1) := by
  unfold RdO at h ⊢
  rw [h, drop_getD hx hk, numsS, if_neg hb, if_neg h1, show n * 128 + x = m by omega, hf]
  cases numsS false 0 (xs.drop (k + 1)) <;> simp [firstTwo]
theorem rdo_more (h : RdO xs l o n k) (hl : l ≠ []) (hx : x = xs.getD k 0) (hk : k < xs.length) (hb : ¬ ((o = false ∧ x = 128) ∨ 72057594037927935 < n)) (h1 : ¬ 128 ≤ x) (h2 : 0 ≤ x) {m : Int} (hm : m = n * 128 + x % 128) :
    RdO xs (l ++ [m]) false 0 (k + 1) := by
  unfold RdO at h ⊢
  rw [h, drop_getD hx hk, numsS, if_neg hb, if_neg h1, show n * 128 + x = m by omega]
  cases numsS false 0 (xs.drop (k + 1)) <;> simp [hl]
theorem rdo_long (h : RdO xs l o n k) (hl : 40 < l.length) : readS xs = none := by
  unfold RdO at h
  rw [h]
  have hne : l ≠ [] := by rintro rfl; simp at hl
  simp only [hne, if_false]
  cases numsS o n (xs.drop k) with
  | none => rfl
  | some ms => exact guard_long (by simp; omega)
theorem rdo_end (h : RdO xs l o n k) (hk : xs.length ≤ k) : readS xs = if o = true then none else guardS l := by
  unfold RdO at h
  rw [h, List.drop_eq_nil_of_le hk, numsS]
  cases o with
  | true => rfl
  | false =>
    by_cases hl : l = []
    · subst hl; rfl
    · simp [hl]
end

/-- The loop's state. -/
def RdL (w wr : World) (xs : List Int) (lv nv ov kv : Value) : Prop := ∃ (l : List Int) (n : Int) (o : Bool) (k : Nat), nv = .int .i64 n ∧ ov = .bool o ∧ kv = .int .i64 k ∧ k ≤ xs.length ∧ 0 ≤ n ∧ n ≤ 9223372036854775807 ∧ l.length ≤ 40 ∧
  Own .i64 3 w.heap.size wr lv l ∧ (∀ x ∈ l, 0 ≤ x ∧ x ≤ maxN) ∧ RdO xs l o n k ∧ Below w.heap.size w wr

set_option maxRecDepth 100000 in
set_option maxHeartbeats 2000000 in
theorem refReadOid (v : Value) (xs : List Int) (w : World) (h : Sl .u8 w v xs) (hu : U8 xs) (hlim : xs.length ≤ 1000000) :
    Calls Tryd.prog 12 #[v] w fun e w' => ∃ v', e = .returned (.tuple #[v', .bool (readS xs).isSome]) ∧ Own .i64 3 w.heap.size w' v' ((readS xs).getD []) ∧ Below w.heap.size w w' := by
  obtain ⟨a0, cap0, rfl, q0, -, h⟩ := h
  have C := hid h
  clear h
  obtain ⟨len, hlen⟩ : ∃ len, len = xs.length := ⟨_, rfl⟩
  rw [← hlen] at C q0 hlim ⊢
  have HL := hid hlen
  have HQ := hid q0
  clear hlen q0
  go_enter Tryd.func12, Tryd.ntmps12
  go_wp2_with (fail)
  go_loopw [4, 5, 6, 7] (fun lv nv ov kv wr => RdL w wr xs lv nv ov kv) (fun _ _ _ kv _ => len - (intOf kv).toNat)
  case atStart =>
    unfold RdL
    exact ⟨[], 0, false, 0, rfl, rfl, rfl, by omega, by omega, by omega, by simp, Own.nil _ _ _ _, (fun x hx => by cases hx), rdo_start xs, Below.refl _ _⟩
  case round =>
    unfold RdL at hrel
    obtain ⟨l, n, o, k, rfl, rfl, rfl, hk, n0, n1, hl40, hown, hnum, hrd, hbel⟩ := hrel
    rw [← HL.out] at hk
    have HOWN := hid hown
    have HNUM := hid hnum
    have HRD := hid hrd
    have HBEL := hid hbel
    have hsz := hbel.size
    clear hown hnum hrd hbel
    obtain ⟨al, cl, hal⟩ := HOWN.out.sl.form
    subst hal
    by_cases hlt : k < len
    · rcases C.out with hc | ⟨bb, oo, rfl, hbb, c⟩
      · have := HQ.out; omega
      obtain ⟨x, hx⟩ : ∃ x, x = xs.getD k 0 := ⟨_, rfl⟩
      have d1 := (HBEL.out.cell (p := ⟨bb, oo + k, none⟩) (hbb (by omega))).trans (c k hlt)
      have hb := hu.get k
      rw [← hx] at d1 hb
      obtain ⟨hb0, hb1⟩ := hb
      have HX := hid hx
      have HK : Hid (k < xs.length) := hid (by rw [← HL.out]; exact hlt)
      clear hx c
      by_cases hbad : (o = false ∧ x = 128) ∨ 72057594037927935 < n
      · have hfin := hid (rdo_bad HRD.out HX.out HK.out hbad)
        have HB := hid hbad
        clear hbad
        cases o with
        | false =>
          by_cases hx8 : x = 128
          · have hxe : (x == 128) = true := by simp [hx8]
            go_wp2_with (fail)
            go_ret2
            rw [hfin.out]
            exact ⟨_, rfl, Own.nil _ _ _ _, HBEL.out⟩
          · have hxe : (x == 128) = false := by simp [hx8]
            have hbig : 72057594037927935 < n := HB.out.elim (fun h => absurd h.2 hx8) id
            go_wp2_with (fail)
            go_ret2
            rw [hfin.out]
            exact ⟨_, rfl, Own.nil _ _ _ _, HBEL.out⟩
        | true =>
          have hbig : 72057594037927935 < n := HB.out.elim (fun h => absurd h.1 (by simp)) id
          go_wp2_with (fail)
          go_ret2
          rw [hfin.out]
          exact ⟨_, rfl, Own.nil _ _ _ _, HBEL.out⟩
      · have hsm : ¬ 72057594037927935 < n := fun hh => hbad (.inr hh)
        have hnx : ¬ (o = false ∧ x = 128) := fun hh => hbad (.inl hh)
        have hrem : ¬ 127 < x % 128 := by omega
        have HB := hid hbad
        have HNX := hid hnx
        clear hbad hnx
        obtain ⟨m, hm⟩ : ∃ m, m = n * 128 + x % 128 := ⟨_, rfl⟩
        have m0 : 0 ≤ m := by omega
        have m1 : m ≤ 9223372036854775807 := by omega
        have hq : n * 128 + x % 128 = m := hm.symm
        have HM := hid hm
        obtain ⟨ee, hee⟩ : ∃ ee, (n == 72057594037927935) = ee := ⟨_, rfl⟩
        have hoc : o = true ∨ (o = false ∧ (x == 128) = false) := by
          cases o with
          | true => exact .inl rfl
          | false => exact .inr ⟨rfl, by simpa using fun h => HNX.out ⟨rfl, h⟩⟩
        clear hm
        by_cases h128 : 128 ≤ x
        · have hon := hid (rdo_on HRD.out HX.out HK.out HB.out h128 hb1)
          rcases hoc with rfl | ⟨rfl, hxe⟩
          all_goals
            go_wp2_with (fail)
            all_goals
              unfold RdL
              refine ⟨⟨l, m, true, k + 1, rfl, rfl, by go_num, (by rw [← HL.out]; omega), m0, m1, hl40, HOWN.out, HNUM.out, (by rw [HM.out]; exact hon.out), HBEL.out⟩, ?_⟩
              simp [intOf]
              omega
        · by_cases hl : l = []
          · subst hl
            obtain ⟨f, hf⟩ : ∃ f, f = min (m / 40) 2 := ⟨_, rfl⟩
            have hon := hid (rdo_first HRD.out HX.out HK.out HB.out h128 hb0 HM.out hf)
            have hmin : (if 2 < m / 40 then 2 else m / 40) = f := by rw [hf]; split <;> omega
            have f0 : 0 ≤ f := by omega
            have f1 : f ≤ 2 := by omega
            have f2 : 40 * f ≤ m := by omega
            have f3 : m - 40 * f ≤ m := by omega
            have HF := hid hf
            clear hf
            rcases hoc with rfl | ⟨rfl, hxe⟩
            all_goals
              go_wp2_with (at_builtin; refine wpList_app _ rfl _ _ 22 rfl .i64 w.heap.size 3 8 Tryd.underlying22 Tryd.infoI64 _ [] [f, m - 40 * f] rfl (HOWN.out.below (by (repeat (first | exact Below.refl _ _ | exact below_drewN _ | refine Below.drew ?_ | refine Below.alloc ?_ (by simp) _ | refine Below.setCell ?_ (by simp) _ | refine below_drewN' ?_ _)))) _ rfl (lit_sl (by simp) rfl rfl (by simp)) (by unfold maxLen; first | omega | (simp; omega) | simp) (by first | omega | (simp; omega) | simp) (by first | omega | (simp; omega) | simp) ?_; intro v5 w5 ho5 hg5 hb5 hn5; clear hg5 hn5; obtain ⟨a5, c5, rfl⟩ := ho5.sl.form; have HO5 := hid ho5; have HB5 := hid (HBEL.out.trans (Below.trans (show Below w.heap.size wr _ by (repeat (first | exact Below.refl _ _ | exact below_drewN _ | refine Below.drew ?_ | refine Below.alloc ?_ (by simp; omega) _ | refine Below.alloc ?_ (by omega) _ | refine Below.setCell ?_ (by simp; omega) _ | refine below_drewN' ?_ _))) hb5)); clear ho5 hb5)
              all_goals
                unfold RdL
                refine ⟨⟨[f, m - 40 * f], 0, false, k + 1, rfl, rfl, by go_num, (by rw [← HL.out]; omega), by omega, by omega, by simp, HO5.out, (fun y hy => ?_), hon.out, HB5.out⟩, ?_⟩
                · unfold maxN
                  simp at hy
                  rcases hy with rfl | rfl <;> omega
                · simp [intOf]
                  omega
          · have hon := hid (rdo_more HRD.out hl HX.out HK.out HB.out h128 hb0 HM.out)
            have hl0 : ((l.length : Int) == 0) = false := by
              have : l.length ≠ 0 := fun h => hl (List.eq_nil_of_length_eq_zero h)
              simp; omega
            have HNE := hid hl
            clear hl
            by_cases h40 : l.length = 40
            · have hfin := hid (rdo_long hon.out (by simp; omega))
              have hge : 40 ≤ l.length := by omega
              have hgt : (40 : Int) < (l.length : Int) + 1 := by omega
              have hl99 : l.length ≤ 99 := by omega
              clear h40 hl40
              rcases hoc with rfl | ⟨rfl, hxe⟩
              all_goals
                go_wp2_with (at_builtin; refine wpList_app _ rfl _ _ 22 rfl .i64 w.heap.size 3 8 Tryd.underlying22 Tryd.infoI64 _ l [m] rfl (HOWN.out.below (by (repeat (first | exact Below.refl _ _ | exact below_drewN _ | refine Below.drew ?_ | refine Below.alloc ?_ (by simp) _ | refine Below.setCell ?_ (by simp) _ | refine below_drewN' ?_ _)))) _ rfl (one_sl (by first | simp | rfl)) (by unfold maxLen; first | omega | (simp; omega) | simp) (by first | omega | (simp; omega) | simp) (by first | omega | (simp; omega) | simp) ?_; intro v5 w5 ho5 hg5 hb5 hn5; clear hg5 hn5; obtain ⟨a5, c5, hv5⟩ := ho5.sl.form; rw [show (l ++ [m]).length = l.length + 1 by simp] at hv5; subst hv5; have HO5 := hid ho5; have HB5 := hid (HBEL.out.trans (Below.trans (show Below w.heap.size wr _ by (repeat (first | exact Below.refl _ _ | exact below_drewN _ | refine Below.drew ?_ | refine Below.alloc ?_ (by simp; omega) _ | refine Below.alloc ?_ (by omega) _ | refine Below.setCell ?_ (by simp; omega) _ | refine below_drewN' ?_ _))) hb5)); clear ho5 hb5)
                all_goals
                  go_ret2
                  rw [hfin.out]
                  exact ⟨_, rfl, Own.nil _ _ _ _, HB5.out⟩
            · have h39 : l.length ≤ 39 := by omega
              rcases hoc with rfl | ⟨rfl, hxe⟩
              all_goals
                go_wp2_with (at_builtin; refine wpList_app _ rfl _ _ 22 rfl .i64 w.heap.size 3 8 Tryd.underlying22 Tryd.infoI64 _ l [m] rfl (HOWN.out.below (by (repeat (first | exact Below.refl _ _ | exact below_drewN _ | refine Below.drew ?_ | refine Below.alloc ?_ (by simp) _ | refine Below.setCell ?_ (by simp) _ | refine below_drewN' ?_ _)))) _ rfl (one_sl (by first | simp | rfl)) (by unfold maxLen; first | omega | (simp; omega) | simp) (by first | omega | (simp; omega) | simp) (by first | omega | (simp; omega) | simp) ?_; intro v5 w5 ho5 hg5 hb5 hn5; clear hg5 hn5; obtain ⟨a5, c5, hv5⟩ := ho5.sl.form; rw [show (l ++ [m]).length = l.length + 1 by simp] at hv5; subst hv5; have HO5 := hid ho5; have HB5 := hid (HBEL.out.trans (Below.trans (show Below w.heap.size wr _ by (repeat (first | exact Below.refl _ _ | exact below_drewN _ | refine Below.drew ?_ | refine Below.alloc ?_ (by simp; omega) _ | refine Below.alloc ?_ (by omega) _ | refine Below.setCell ?_ (by simp; omega) _ | refine below_drewN' ?_ _))) hb5)); clear ho5 hb5)
                all_goals
                  unfold RdL
                  refine ⟨⟨l ++ [m], 0, false, k + 1, rfl, rfl, by go_num, (by rw [← HL.out]; omega), by omega, by omega, by simp; omega, HO5.out, (fun y hy => ?_), hon.out, HB5.out⟩, ?_⟩
                  · rcases List.mem_append.1 hy with hy | hy
                    · exact HNUM.out y hy
                    · simp at hy
                      subst hy
                      unfold maxN
                      exact ⟨m0, m1⟩
                  · simp [intOf]
                    omega
    · have hfin := hid (rdo_end HRD.out (by rw [← HL.out]; omega))
      cases o with
      | true =>
        go_wp2_with (fail)
        go_ret2
        rw [hfin.out]
        exact ⟨_, rfl, Own.nil _ _ _ _, HBEL.out⟩
      | false =>
        have hI : I64 l := fun x hx => by
          have := HNUM.out x hx
          unfold maxN at this
          omega
        have hfin2 : Hid (readS xs = guardS l) := hid hfin.out
        cases hok : oidOk l with
        | true =>
          have HOK := hid hok
          clear hok
          go_wp2_with (go_at_call 15; refine (refOid _ l _ HOWN.out.sl hI).mono ?_; rw [HOK.out]; rintro e w' ⟨rfl, rfl⟩)
          go_ret2
          rw [hfin2.out, guard_ok HOK.out]
          exact ⟨_, rfl, HOWN.out, HBEL.out⟩
        | false =>
          have HOK := hid hok
          clear hok
          go_wp2_with (go_at_call 15; refine (refOid _ l _ HOWN.out.sl hI).mono ?_; rw [HOK.out]; rintro e w' ⟨rfl, rfl⟩)
          go_ret2
          have : guardS l = none := by unfold guardS; rw [if_neg (by rw [HOK.out]; simp)]
          rw [hfin2.out, this]
          exact ⟨_, rfl, Own.nil _ _ _ _, HBEL.out⟩
end Go.Proofs.YtihbgpgiladfkaaDoor
