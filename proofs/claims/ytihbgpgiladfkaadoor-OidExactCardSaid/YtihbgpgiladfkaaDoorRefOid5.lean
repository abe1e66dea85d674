/- Contract of the document's own reader of an identifier's text: the identifier in new memory, or that there is none. -/
import Derived.Test.YtihbgpgiladfkaaDoorRefOid1
import Derived.Test.YtihbgpgiladfkaaDoorOid5
import Derived.Test.YtihbgpgiladfkaaDoorStrs
namespace Go.Proofs.YtihbgpgiladfkaaDoor
open Go.RowKit

/-- Where the reading stands: at k, or behind the end. -/
def PoO (xs l : List Int) (dg : Nat) (z : Bool) (n : Int) (k : Nat) : Prop :=
  if k ≤ xs.length then parseS xs = (numsT (decide (dg ≠ 0)) z n (xs.drop k)).bind fun ms => guardS (l ++ ms) else parseS xs = guardS l
section
variable {xs l : List Int} {dg k : Nat} {z : Bool} {n x : Int}
theorem poo_start (xs : List Int) : PoO xs [] 0 false 0 0 := by
  unfold PoO
  rw [if_pos (by omega)]
  rfl
theorem poo_none_end (h : PoO xs l 0 z n k) (hk : k = xs.length) : parseS xs = none := by
  unfold PoO at h
  rw [if_pos (by omega)] at h
  rw [h, List.drop_eq_nil_of_le (by omega), numsT, if_neg (by simp)]
  rfl
theorem poo_full_end (h : PoO xs l dg z n k) (hk : k = xs.length) (hd : dg ≠ 0) (hl : 40 ≤ l.length) : parseS xs = none := by
  unfold PoO at h
  rw [if_pos (by omega)] at h
  rw [h, List.drop_eq_nil_of_le (by omega), numsT, if_pos (by simpa using hd)]
  exact guard_long (by simp; omega)
theorem poo_on_end (h : PoO xs l dg z n k) (hk : k = xs.length) (hd : dg ≠ 0) : PoO xs (l ++ [n]) 0 false 0 (k + 1) := by
  unfold PoO at h ⊢
  rw [if_pos (by omega)] at h
  rw [if_neg (by omega), h, List.drop_eq_nil_of_le (by omega), numsT, if_pos (by simpa using hd)]
  rfl
theorem poo_none (h : PoO xs l 0 z n k) (hx : 46 = xs.getD k 0) (hk : k < xs.length) : parseS xs = none := by
  unfold PoO at h
  rw [if_pos (by omega)] at h
  rw [h, drop_getD hx hk, numsT, if_pos rfl, if_neg (by simp)]
  rfl
theorem poo_full (h : PoO xs l dg z n k) (hx : 46 = xs.getD k 0) (hk : k < xs.length) (hd : dg ≠ 0) (hl : 40 ≤ l.length) : parseS xs = none := by
  unfold PoO at h
  rw [if_pos (by omega)] at h
  rw [h, drop_getD hx hk, numsT, if_pos rfl, if_pos (by simpa using hd)]
  cases numsT false false 0 (xs.drop (k + 1)) with
  | none => rfl
  | some ms => exact guard_long (by simp; omega)
theorem poo_on (h : PoO xs l dg z n k) (hx : 46 = xs.getD k 0) (hk : k < xs.length) (hd : dg ≠ 0) : PoO xs (l ++ [n]) 0 false 0 (k + 1) := by
  unfold PoO at h ⊢
  rw [if_pos (by omega)] at h
  rw [if_pos (by omega), h, drop_getD hx hk, numsT, if_pos rfl, if_pos (by simpa using hd)]
  rw [show decide ((0 : Nat) ≠ 0) = false by simp]
  cases numsT false false 0 (xs.drop (k + 1)) <;> simp
theorem poo_bad (h : PoO xs l dg z n k) (hx : x = xs.getD k 0) (hk : k < xs.length) (h46 : x ≠ 46) (hb : x < 48 ∨ 57 < x ∨ z = true ∨ maxN < 10 * n + (x - 48)) : parseS xs = none := by
  unfold PoO at h
  rw [if_pos (by omega)] at h
  rw [h, drop_getD hx hk, numsT, if_neg h46, if_pos hb]
  rfl
theorem poo_dig (h : PoO xs l dg z n k) (hx : x = xs.getD k 0) (hk : k < xs.length) (h46 : x ≠ 46) (hb : ¬ (x < 48 ∨ 57 < x ∨ z = true ∨ maxN < 10 * n + (x - 48))) :
    PoO xs l (dg + 1) (decide (dg = 0) && decide (x = 48)) (10 * n + (x - 48)) (k + 1) := by
  unfold PoO at h ⊢
  rw [if_pos (by omega)] at h
  rw [if_pos (by omega), h, drop_getD hx hk, numsT, if_neg h46, if_neg hb]
  simp
theorem poo_end (h : PoO xs l dg z n k) (hk : xs.length < k) : parseS xs = guardS l := by
  unfold PoO at h
  rwa [if_neg (by omega)] at h
end

/-- The loop's state. -/
def PoL (w wr : World) (xs : List Int) (lv nv dv zv kv : Value) : Prop := ∃ (l : List Int) (n : Int) (dg : Nat) (z : Bool) (k : Nat), nv = .int .i64 n ∧ dv = .int .i64 dg ∧ zv = .bool z ∧ kv = .int .i64 k ∧ k ≤ xs.length + 1 ∧ dg ≤ k ∧ 0 ≤ n ∧ n ≤ 9223372036854775807 ∧
  l.length ≤ 40 ∧ Own .i64 3 w.heap.size wr lv l ∧ (∀ x ∈ l, 0 ≤ x ∧ x ≤ maxN) ∧ PoO xs l dg z n k ∧ Below w.heap.size w wr

set_option maxRecDepth 100000 in
set_option maxHeartbeats 4000000 in
theorem refParseOid (s : ByteArray) (w : World) (hlim : s.size ≤ 1000000) :
    Calls Tryd.prog 13 #[.string s] w fun e w' => ∃ v', e = .returned (.tuple #[v', .bool (parseS (sx s)).isSome]) ∧ Own .i64 3 w.heap.size w' v' ((parseS (sx s)).getD []) ∧ Below w.heap.size w w' := by
  have HLEN := hid (sx_len s)
  have HU := hid (sx_u8 s)
  have HG : Hid (∀ i (h : i < s.size), ((s[i]'h).toNat : Int) = (sx s).getD i 0) := hid fun i h => (sx_get s i h).symm
  go_enter Tryd.func13, Tryd.ntmps13
  go_wp2_with (fail)
  go_loopw [4, 5, 6, 7, 8] (fun lv nv dv zv kv wr => PoL w wr (sx s) lv nv dv zv kv) (fun _ _ _ _ kv _ => s.size + 1 - (intOf kv).toNat)
  case atStart =>
    unfold PoL
    exact ⟨[], 0, 0, false, 0, rfl, rfl, rfl, rfl, by omega, by omega, by omega, by omega, by simp, Own.nil _ _ _ _, (fun x hx => by cases hx), poo_start _, Below.refl _ _⟩
  case round =>
    unfold PoL at hrel
    obtain ⟨l, n, dg, z, k, rfl, rfl, rfl, rfl, hk, hdk, n0, n1, hl40, hown, hnum, hpo, hbel⟩ := hrel
    rw [HLEN.out] at hk
    have HOWN := hid hown
    have HNUM := hid hnum
    have HPO := hid hpo
    have HBEL := hid hbel
    have hsz := hbel.size
    clear hown hnum hpo hbel
    obtain ⟨al, cl, hal⟩ := HOWN.out.sl.form
    subst hal
    by_cases hend : k ≤ s.size
    · by_cases hlt : k < s.size
      · obtain ⟨x, hx⟩ : ∃ x, x = (sx s).getD k 0 := ⟨_, rfl⟩
        have dk := HG.out k hlt
        rw [← hx] at dk
        have bk := HU.out.get k
        rw [← hx] at bk
        obtain ⟨bk0, bk1⟩ := bk
        have HX := hid hx
        have HK : Hid (k < (sx s).length) := hid (by rw [HLEN.out]; exact hlt)
        have hne : ((k : Int) == (s.size : Int)) = false := by simp; omega
        clear hx
        by_cases h46 : x = 46
        · subst h46
          rcases Nat.eq_zero_or_pos dg with hd0 | hd0
          · subst hd0
            have hfin := hid (poo_none HPO.out HX.out HK.out)
            go_wp2_with (fail)
            go_ret2
            rw [hfin.out]
            exact ⟨_, rfl, Own.nil _ _ _ _, HBEL.out⟩
          · have hdz : ((dg : Int) == 0) = false := by simp; omega
            by_cases h40 : 40 ≤ l.length
            · have hfin := hid (poo_full HPO.out HX.out HK.out (by omega) h40)
              have hge : (40 : Int) ≤ (l.length : Int) := by omega
              have hl99 : l.length ≤ 99 := by omega
              clear hl40
              go_wp2_with (fail)
              go_ret2
              rw [hfin.out]
              exact ⟨_, rfl, Own.nil _ _ _ _, HBEL.out⟩
            · have hon := hid (poo_on HPO.out HX.out HK.out (by omega))
              go_wp2_with (at_builtin; refine wpList_app _ rfl _ _ 22 rfl .i64 w.heap.size 3 8 Tryd.underlying22 Tryd.infoI64 _ l [n] rfl (HOWN.out.below (by (repeat (first | exact Below.refl _ _ | exact below_drewN _ | refine Below.drew ?_ | refine Below.alloc ?_ (by simp) _ | refine Below.setCell ?_ (by simp) _ | refine below_drewN' ?_ _)))) _ rfl (one_sl (by first | simp | rfl)) (by unfold maxLen; first | omega | (simp; omega) | simp) (by first | omega | (simp; omega) | simp) (by first | omega | (simp; omega) | simp) ?_; intro v5 w5 ho5 hg5 hb5 hn5; clear hg5 hn5; have HO5 := hid ho5; have HB5 := hid (HBEL.out.trans (Below.trans (show Below w.heap.size wr _ by (repeat (first | exact Below.refl _ _ | exact below_drewN _ | refine Below.drew ?_ | refine Below.alloc ?_ (by simp; omega) _ | refine Below.alloc ?_ (by omega) _ | refine Below.setCell ?_ (by simp; omega) _ | refine below_drewN' ?_ _))) hb5)); clear ho5 hb5)
              unfold PoL
              refine ⟨⟨l ++ [n], 0, 0, false, k + 1, rfl, rfl, rfl, by go_num, (by rw [HLEN.out]; omega), by omega, by omega, by omega, by simp; omega, HO5.out, (fun y hy => ?_), hon.out, HB5.out⟩, ?_⟩
              · rcases List.mem_append.1 hy with hy | hy
                · exact HNUM.out y hy
                · simp at hy
                  subst hy
                  unfold maxN
                  exact ⟨n0, n1⟩
              · simp [intOf]
                omega
        · have hn46 : (x == 46) = false := by simp [h46]
          by_cases hbad : x < 48 ∨ 57 < x ∨ z = true ∨ maxN < 10 * n + (x - 48)
          · have hfin := hid (poo_bad HPO.out HX.out HK.out h46 hbad)
            unfold maxN at hbad
            cases z with
            | true =>
              clear hbad
              go_wp2_with (fail)
              all_goals
                go_ret2
                rw [hfin.out]
                exact ⟨_, rfl, Own.nil _ _ _ _, HBEL.out⟩
            | false =>
              have hb2 : x < 48 ∨ 57 < x ∨ 922337203685477580 < n ∨ (n = 922337203685477580 ∧ 7 < x - 48) := by
                rcases hbad with h | h | h | h
                · exact .inl h
                · exact .inr (.inl h)
                · cases h
                · omega
              have HB := hid hb2
              clear hbad hb2
              go_wp2_with (fail)
              all_goals first
                | (go_ret2; rw [hfin.out]; exact ⟨_, rfl, Own.nil _ _ _ _, HBEL.out⟩)
                | (have hb2 := HB.out; exfalso; omega)
          · have hon := hid (poo_dig HPO.out HX.out HK.out h46 hbad)
            unfold maxN at hbad
            have c1 : 48 ≤ x := by omega
            have c2 : x ≤ 57 := by omega
            have hz : z = false := by
              cases z with
              | true => exact absurd (.inr (.inr (.inl rfl))) hbad
              | false => rfl
            subst hz
            have c3 : 10 * n + (x - 48) ≤ 9223372036854775807 := by omega
            have c4 : ¬ 922337203685477580 < n := by omega
            have c5 : n = 922337203685477580 → ¬ 7 < x - 48 := by omega
            have HC5 := hid c5
            obtain ⟨m, hm⟩ : ∃ m, m = 10 * n + (x - 48) := ⟨_, rfl⟩
            have m0 : 0 ≤ m := by omega
            have m1 : m ≤ 9223372036854775807 := by omega
            have hq : 10 * n + (x - 48) = m := hm.symm
            have HM := hid hm
            obtain ⟨ee, hee⟩ : ∃ ee, (n == 922337203685477580) = ee := ⟨_, rfl⟩
            have HE : Hid (ee = true → ¬ 7 < x - 48) := hid fun h => c5 (by rw [h] at hee; simpa using hee)
            obtain ⟨zz, hzz⟩ : ∃ zz, (decide (dg = 0) && decide (x = 48)) = zz := ⟨_, rfl⟩
            rw [hzz, ← hm] at hon
            clear hbad c5 hm
            rcases Nat.eq_zero_or_pos dg with hd0 | hd0
            · subst hd0
              have hx0 : (x - 48 == 0) = zz := by
                rw [← hzz]
                simp
                by_cases h : x = 48
                · simp [h]
                · simp [h]; omega
              have HZZ := hid hzz
              clear hzz
              go_wp2_with (fail)
              all_goals first
                | (have h9 := HE.out (by assumption)
                   exfalso
                   omega)
                | (unfold PoL
                   refine ⟨⟨l, m, 0 + 1, zz, k + 1, rfl, rfl, rfl, by go_num, (by rw [HLEN.out]; omega), by omega, m0, m1, hl40, HOWN.out, HNUM.out, hon.out, HBEL.out⟩, ?_⟩
                   simp [intOf]
                   omega)
            · have hdz : ((dg : Int) == 0) = false := by simp; omega
              have hzf : zz = false := by
                rw [← hzz]
                simp
                omega
              subst hzf
              have HZZ := hid hzz
              clear hzz
              go_wp2_with (fail)
              all_goals first
                | (have h9 := HE.out (by assumption)
                   exfalso
                   omega)
                | (unfold PoL
                   refine ⟨⟨l, m, dg + 1, false, k + 1, rfl, by go_num, rfl, by go_num, (by rw [HLEN.out]; omega), by omega, m0, m1, hl40, HOWN.out, HNUM.out, hon.out, HBEL.out⟩, ?_⟩
                   simp [intOf]
                   omega)
      · obtain rfl : k = s.size := by omega
        have HSZ : Hid (s.size = (sx s).length) := hid HLEN.out.symm
        rcases Nat.eq_zero_or_pos dg with hd0 | hd0
        · subst hd0
          have hfin := hid (poo_none_end HPO.out HSZ.out)
          go_wp2_with (fail)
          go_ret2
          rw [hfin.out]
          exact ⟨_, rfl, Own.nil _ _ _ _, HBEL.out⟩
        · have hdz : ((dg : Int) == 0) = false := by simp; omega
          by_cases h40 : 40 ≤ l.length
          · have hfin := hid (poo_full_end HPO.out HSZ.out (by omega) h40)
            have hge : (40 : Int) ≤ (l.length : Int) := by omega
            have hl99 : l.length ≤ 99 := by omega
            clear hl40
            go_wp2_with (fail)
            go_ret2
            rw [hfin.out]
            exact ⟨_, rfl, Own.nil _ _ _ _, HBEL.out⟩
          · have hon := hid (poo_on_end HPO.out HSZ.out (by omega))
            go_wp2_with (at_builtin; refine wpList_app _ rfl _ _ 22 rfl .i64 w.heap.size 3 8 Tryd.underlying22 Tryd.infoI64 _ l [n] rfl (HOWN.out.below (by (repeat (first | exact Below.refl _ _ | exact below_drewN _ | refine Below.drew ?_ | refine Below.alloc ?_ (by simp) _ | refine Below.setCell ?_ (by simp) _ | refine below_drewN' ?_ _)))) _ rfl (one_sl (by first | simp | rfl)) (by unfold maxLen; first | omega | (simp; omega) | simp) (by first | omega | (simp; omega) | simp) (by first | omega | (simp; omega) | simp) ?_; intro v5 w5 ho5 hg5 hb5 hn5; clear hg5 hn5; have HO5 := hid ho5; have HB5 := hid (HBEL.out.trans (Below.trans (show Below w.heap.size wr _ by (repeat (first | exact Below.refl _ _ | exact below_drewN _ | refine Below.drew ?_ | refine Below.alloc ?_ (by simp; omega) _ | refine Below.alloc ?_ (by omega) _ | refine Below.setCell ?_ (by simp; omega) _ | refine below_drewN' ?_ _))) hb5)); clear ho5 hb5)
            unfold PoL
            refine ⟨⟨l ++ [n], 0, 0, false, s.size + 1, rfl, rfl, rfl, by go_num, (by rw [HLEN.out]; omega), by omega, by omega, by omega, by simp; omega, HO5.out, (fun y hy => ?_), hon.out, HB5.out⟩, ?_⟩
            · rcases List.mem_append.1 hy with hy | hy
              · exact HNUM.out y hy
              · simp at hy
                subst hy
                unfold maxN
                exact ⟨n0, n1⟩
            · simp [intOf]
    · have hfin := hid (poo_end HPO.out (by rw [HLEN.out]; omega))
      have hI : I64 l := fun x hx => by
        have := HNUM.out x hx
        unfold maxN at this
        omega
      cases hok : oidOk l with
      | true =>
        have HOK := hid hok
        clear hok
        go_wp2_with (go_at_call 15; refine (refOid _ l _ HOWN.out.sl hI).mono ?_; rw [HOK.out]; rintro e w' ⟨rfl, rfl⟩)
        go_ret2
        rw [hfin.out, guard_ok HOK.out]
        exact ⟨_, rfl, HOWN.out, HBEL.out⟩
      | false =>
        have HOK := hid hok
        clear hok
        go_wp2_with (go_at_call 15; refine (refOid _ l _ HOWN.out.sl hI).mono ?_; rw [HOK.out]; rintro e w' ⟨rfl, rfl⟩)
        go_ret2
        have : guardS l = none := by unfold guardS; rw [if_neg (by rw [HOK.out]; simp)]
        rw [hfin.out, this]
        exact ⟨_, rfl, Own.nil _ _ _ _, HBEL.out⟩
end Go.Proofs.YtihbgpgiladfkaaDoor
