/- Contract of package oid's reader of an identifier's text: Parse answers the identifier in new memory, or that there is none. -/
import Derived.Test.YtihbgpgiladfkaaDoorOid5
import Derived.Test.YtihbgpgiladfkaaDoorOid7
import Derived.Test.YtihbgpgiladfkaaDoorShelf
namespace Go.Proofs.YtihbgpgiladfkaaDoor
open Go.RowKit

/-- The library's variable MaxLen holds an integer. -/
def MaxL (w : World) : Prop := ∃ m, w.cell? ⟨0, 0, none⟩ = some (.int .i64 m)
theorem MaxL.below {w w' : World} (h : MaxL w) (hb : Below w.heap.size w w') : MaxL w' := by
  obtain ⟨m, hm⟩ := h
  exact ⟨m, (hb.cell (World.block_lt_of_cell? w _ hm)).trans hm⟩

theorem numsT_cut : ∀ (xs : List Int) (c z : Bool) (n : Int), numsT c z n xs = match (cutP xs).2 with
    | none => (numD c z n (cutP xs).1).map fun m => [m]
    | some r => (numD c z n (cutP xs).1).bind fun m => (numsT false false 0 r).map fun ms => m :: ms
  | [], c, z, n => by
    rw [numsT, cutP, numD]
    cases c <;> rfl
  | x :: r, c, z, n => by
    rw [numsT, cutP]
    by_cases hx : x = 46
    · rw [if_pos hx, if_pos hx, numD]
      cases c <;> simp
    · rw [if_neg hx, if_neg hx]
      dsimp only
      rw [numD]
      by_cases hb : x < 48 ∨ 57 < x ∨ z = true ∨ maxN < 10 * n + (x - 48)
      · rw [if_pos hb, if_pos hb]
        cases (cutP r).2 <;> rfl
      · rw [if_neg hb, if_neg hb]
        exact numsT_cut r _ _ _

theorem numD_le : ∀ (xs : List Int) (c z : Bool) (n m : Int), 0 ≤ n → n ≤ maxN → numD c z n xs = some m → 0 ≤ m ∧ m ≤ maxN
  | [], c, z, n, m, h0, h1, h => by
    rw [numD] at h
    split at h
    · injection h with h; omega
    · cases h
  | x :: r, c, z, n, m, h0, h1, h => by
    rw [numD] at h
    split at h
    · cases h
    · rename_i hb
      exact numD_le r _ _ _ m (by omega) (by omega) h

/-- Where the reading of a text stands: what is read, the rest, does more follow? -/
def ParO (xs l ys : List Int) (b : Bool) : Prop := if b = true then parseS xs = ((numsT false false 0 ys).bind fun ms => guardS (l ++ ms)) else parseS xs = guardS l
theorem par_start (xs : List Int) : ParO xs [] xs true := by
  unfold ParO
  rw [if_pos rfl]
  rfl
theorem par_none {xs l ys : List Int} (h : ParO xs l ys true) (hn : numD false false 0 (cutP ys).1 = none) : parseS xs = none := by
  unfold ParO at h
  rw [if_pos rfl] at h
  rw [h, numsT_cut ys, hn]
  cases (cutP ys).2 <;> rfl
theorem par_full {xs l ys : List Int} {n : Int} (h : ParO xs l ys true) (hn : numD false false 0 (cutP ys).1 = some n) (hl : l.length = 40) : parseS xs = none := by
  unfold ParO at h
  rw [if_pos rfl] at h
  rw [h, numsT_cut ys, hn]
  cases (cutP ys).2 with
  | none => exact guard_long (by simp; omega)
  | some r =>
    cases hr : numsT false false 0 r with
    | none => simp [hr]
    | some ms =>
      simp only [hr, Option.bind_some, Option.map_some]
      exact guard_long (by simp; omega)
theorem par_on {xs l ys : List Int} {n : Int} (h : ParO xs l ys true) (hn : numD false false 0 (cutP ys).1 = some n) : ParO xs (l ++ [n]) ((cutP ys).2.getD []) (cutP ys).2.isSome := by
  unfold ParO at h ⊢
  rw [if_pos rfl] at h
  rw [h, numsT_cut ys, hn]
  cases (cutP ys).2 with
  | none => simp
  | some r =>
    simp only [Option.isSome_some, if_true, Option.getD_some, Option.bind_some]
    cases numsT false false 0 r <;> simp
theorem par_end {xs l ys : List Int} (h : ParO xs l ys false) : parseS xs = guardS l := by
  unfold ParO at h
  rwa [if_neg (by simp)] at h
theorem guard_err (l : List Int) : errO (guardS l) = chk l := by
  unfold guardS chk
  split <;> rfl

theorem cutAt (s : ByteArray) (w : World) (hs : s.size ≤ 1000000) (hm : MaxL w) :
    Calls Tryd.prog 25 #[.string s, .string ⟨#[46]⟩] w fun e w' => e = .returned (.tuple #[.string (strOf (cutP (sx s)).1), .string (strOf ((cutP (sx s)).2.getD [])), .bool (cutP (sx s)).2.isSome]) ∧ ∃ n, w' = w.drewN n := by
  obtain ⟨m, hm⟩ := hm
  refine (Tryd.strings_Cut s ⟨#[46]⟩ m w (by omega) hm).mono fun e w' ⟨he, hw⟩ => ⟨?_, hw⟩
  rw [he]
  obtain ⟨h1, h2⟩ := cut_lib s.data.toList
  have e0 : (⟨#[46]⟩ : ByteArray).data.toList = [46] := rfl
  rw [e0]
  have e1 : (⟨(Lib.cut s.data.toList [46]).1.toArray⟩ : ByteArray) = strOf (cutP (sx s)).1 := by
    rw [← strOf_i8, h1]
    rfl
  have e2 : (⟨(Lib.cut s.data.toList [46]).2.1.toArray⟩ : ByteArray) = strOf ((cutP (sx s)).2.getD []) ∧ (Lib.cut s.data.toList [46]).2.2 = (cutP (sx s)).2.isSome := by
    rw [← strOf_i8]
    change match (cutP (sx s)).2 with | none => _ | some r => _ at h2
    revert h2
    cases (cutP (sx s)).2 with
    | none => intro h2; rw [h2]; exact ⟨rfl, rfl⟩
    | some r => intro h2; exact ⟨by rw [h2.2]; rfl, h2.1⟩
  rw [e1, e2.1, e2.2]

def strN : Value → Nat
  | .string s => s.size
  | _ => 0
def moreN (sv : Value) : Value → Nat
  | .bool true => strN sv + 1
  | _ => 0
/-- The loop's state. -/
def ParL (w wr : World) (xs : List Int) (sv lv bv : Value) : Prop := ∃ (s : ByteArray) (l : List Int) (b : Bool), sv = .string s ∧ bv = .bool b ∧ s.size ≤ 1000000 ∧ Own .i64 3 w.heap.size wr lv l ∧ ParO xs l (sx s) b ∧
  (∀ x ∈ l, 0 ≤ x ∧ x ≤ maxN) ∧ l.length ≤ 40 ∧ Below w.heap.size w wr

set_option maxHeartbeats 1000000 in
theorem oidParse (s : ByteArray) (w : World) (hm : MaxL w) (hl : s.size ≤ 1000000) :
    Calls Tryd.prog 11 #[.string s] w fun e w' => ∃ v', e = .returned (.tuple #[v', .int .i64 (errO (parseS (sx s)))]) ∧ Own .i64 3 w.heap.size w' v' ((parseS (sx s)).getD []) ∧ Below w.heap.size w w' := by
  obtain ⟨xs, hxs⟩ : ∃ xs, xs = sx s := ⟨_, rfl⟩
  rw [← hxs]
  have HS := hid hxs
  clear hxs
  go_enter Tryd.func11, Tryd.ntmps11
  go_wp2_with (fail)
  go_loopw [0, 4, 5] (fun sv lv bv wr => ParL w wr xs sv lv bv) (fun sv _ bv _ => moreN sv bv)
  case atStart =>
    unfold ParL
    exact ⟨s, [], true, rfl, rfl, hl, Own.nil _ _ _ _, (by rw [← HS.out]; exact par_start xs), (fun x hx => by cases hx), by simp, Below.refl _ _⟩
  case round =>
    unfold ParL at hrel
    obtain ⟨s2, l, b, rfl, rfl, hs2, hown, hpar, hnum, hl40, hbel⟩ := hrel
    have HOWN := hid hown
    have HNUM := hid hnum
    have HBEL := hid hbel
    have HPAR := hid hpar
    clear hown hnum hbel hpar
    obtain ⟨al, cl, hal⟩ := HOWN.out.sl.form
    subst hal
    cases b with
    | false =>
      have hfin := hid (par_end HPAR.out)
      have hI : I64 l := fun x hx => by
        have := HNUM.out x hx
        unfold maxN at this
        omega
      by_cases hok : oidOk l = true
      · have hc := hid (chk_ok hok)
        have hg : (guardS l).getD [] = l := by rw [guard_ok hok]; rfl
        have HG := hid hg
        clear hok hg
        go_wp2_with (go_at_call 16; refine (oidCheck _ l _ HOWN.out.sl hI).mono ?_; rw [hc.out]; rintro e w' ⟨rfl, n, rfl⟩)
        go_ret2
        rw [hfin.out, guard_err, HG.out, hc.out]
        exact ⟨_, rfl, HOWN.out, HBEL.out.trans (below_drewN n)⟩
      · have hc := hid (chk_bad (Bool.eq_false_iff.2 hok))
        have hg : (guardS l).getD [] = [] := by unfold guardS; rw [if_neg hok]; rfl
        have HG := hid hg
        clear hok hg
        go_wp2_with (go_at_call 16; refine (oidCheck _ l _ HOWN.out.sl hI).mono ?_; rw [hc.out]; rintro e w' ⟨rfl, n, rfl⟩)
        go_ret2
        rw [hfin.out, guard_err, HG.out, hc.out]
        exact ⟨_, rfl, Own.nil _ _ _ _, HBEL.out.trans (below_drewN n)⟩
    | true =>
      have hpl := hid (cutP_parts (sx s2))
      have hpu : U8 (cutP (sx s2)).1 := fun x hx => sx_u8 s2 x (by rw [cutP_parts (sx s2)]; exact List.mem_append_left _ hx)
      have hpn : (strOf (cutP (sx s2)).1).size ≤ 1000000 := by
        have := congrArg List.length (cutP_parts (sx s2))
        rw [sx_len, List.length_append] at this
        rw [strOf_len]
        omega
      have hps : numP (sx (strOf (cutP (sx s2)).1)) = numP (cutP (sx s2)).1 := by rw [sx_strOf hpu]
      have hru : U8 ((cutP (sx s2)).2.getD []) := by
        have h := cutP_parts (sx s2)
        have hu := sx_u8 s2
        cases hq : (cutP (sx s2)).2 with
        | none => exact U8.nil
        | some r =>
          rw [hq] at h
          exact fun x hx => hu x (by rw [h]; exact List.mem_append_right _ (List.mem_cons_of_mem _ hx))
      have hrn : (strOf ((cutP (sx s2)).2.getD [])).size ≤ 1000000 ∧ ((cutP (sx s2)).2.isSome = true → (strOf ((cutP (sx s2)).2.getD [])).size < s2.size) := by
        rw [strOf_len, ← sx_len s2]
        cases hq : (cutP (sx s2)).2 with
        | none => exact ⟨by simp, fun h => by cases h⟩
        | some r =>
          have := cutP_less hq
          rw [sx_len] at this
          exact ⟨by simp; omega, fun _ => by simp; rw [sx_len]; omega⟩
      obtain ⟨hrn1, hrn2⟩ := hrn
      have HRU := hid (sx_strOf hru)
      have HR2 := hid hrn2
      clear hpu hru hrn2 hpl
      obtain ⟨p, hp⟩ : ∃ p, p = (cutP (sx s2)).1 := ⟨_, rfl⟩
      obtain ⟨rs, hrs⟩ : ∃ rs, rs = strOf ((cutP (sx s2)).2.getD []) := ⟨_, rfl⟩
      obtain ⟨mo, hmo⟩ : ∃ mo, mo = (cutP (sx s2)).2.isSome := ⟨_, rfl⟩
      have hcut := cutAt s2 wr hs2 (hm.below HBEL.out)
      rw [← hp, ← hrs, ← hmo] at hcut
      rw [← hp] at hps hpn
      rw [← hrs] at hrn1 HR2 HRU
      rw [← hmo] at HR2
      have HP := hid hp
      have HMO := hid hmo
      clear hp hrs hmo
      cases hnd : numD false false 0 p with
      | none =>
        have hfin := hid (par_none HPAR.out (by rw [← HP.out]; exact hnd))
        have hT : numP (sx (strOf p)) = (0, false) := by rw [hps]; unfold numP; rw [hnd]
        have HT := hid hT
        clear hps hnd hT
        go_wp2_with (first
          | (go_at_call 25; refine hcut.mono ?_; rintro e w' ⟨rfl, n, rfl⟩)
          | (go_at_call 26; refine (oidParseNum (strOf p) _ hpn).mono ?_; rw [HT.out]; unfold pairP; rintro e w' ⟨rfl, rfl⟩))
        go_ret2
        rw [hfin.out]
        exact ⟨_, rfl, Own.nil _ _ _ _, HBEL.out.trans (below_drewN n)⟩
      | some m =>
        have hT : numP (sx (strOf p)) = (m, true) := by rw [hps]; unfold numP; rw [hnd]
        have HT := hid hT
        have HND := hid hnd
        obtain ⟨m0, m1⟩ := numD_le p false false 0 m (by omega) (by unfold maxN; omega) hnd
        have HM := hid (And.intro m0 m1)
        clear hps hnd hT m0 m1
        by_cases hl4 : l.length = 40
        · have hfin := hid (par_full HPAR.out (by rw [← HP.out]; exact HND.out) hl4)
          have hl2 : ((l.length : Int) == 40) = true := by simp; omega
          go_wp2_with (first
            | (go_at_call 25; refine hcut.mono ?_; rintro e w' ⟨rfl, n, rfl⟩)
            | (go_at_call 26; refine (oidParseNum (strOf p) _ hpn).mono ?_; rw [HT.out]; unfold pairP; rintro e w' ⟨rfl, rfl⟩))
          go_ret2
          rw [hfin.out]
          exact ⟨_, rfl, Own.nil _ _ _ _, HBEL.out.trans (below_drewN n)⟩
        · have hl2 := num_lt (n := l.length) (by omega)
          have hon := hid (par_on HPAR.out (by rw [← HP.out]; exact HND.out))
          have hz := HBEL.out.size
          go_wp2_with (first
            | (go_at_call 25; refine hcut.mono ?_; rintro e w' ⟨rfl, n, rfl⟩)
            | (go_at_call 26; refine (oidParseNum (strOf p) _ hpn).mono ?_; rw [HT.out]; unfold pairP; rintro e w' ⟨rfl, rfl⟩)
            | (at_builtin; go_loud (refine wpList_app _ rfl _ _ 22 rfl .i64 w.heap.size 3 8 Tryd.underlying22 Tryd.infoI64 _ l [m] rfl (HOWN.out.below (by (repeat (first | exact Below.refl _ _ | exact below_drewN _ | refine Below.drew ?_ | refine Below.alloc ?_ (by simp) _ | refine Below.setCell ?_ (by simp) _ | refine below_drewN' ?_ _)))) _ rfl (one_sl (by first | simp | rfl)) (by unfold maxLen; first | omega | (simp; omega)) (by first | omega | (simp; omega) | simp) (by first | omega | (simp; omega) | simp) ?_); intro v5 w5 ho5 hg5 hb5 hn5))
          go_roundw
          case rel =>
            unfold ParL
            refine ⟨rs, l ++ [m], mo, rfl, rfl, hrn1, ho5, ?_, fun x hx => ?_, by simp; omega, HBEL.out.trans (Below.trans ?_ hb5)⟩
            · rw [HRU.out, HMO.out]
              exact hon.out
            · rcases List.mem_append.1 hx with hx | hx
              · exact HNUM.out x hx
              · simp at hx
                subst hx
                exact HM.out
            · (repeat (first | exact Below.refl _ _ | exact below_drewN _ | refine Below.drew ?_ | refine Below.alloc ?_ (by simp; omega) _ | refine Below.alloc ?_ (by omega) _ | refine Below.setCell ?_ (by simp; omega) _ | refine below_drewN' ?_ _))
          case measure =>
            cases mo with
            | false => simp [moreN]
            | true =>
              have := HR2.out rfl
              simp [moreN, strN]
              omega
end Go.Proofs.YtihbgpgiladfkaaDoor
