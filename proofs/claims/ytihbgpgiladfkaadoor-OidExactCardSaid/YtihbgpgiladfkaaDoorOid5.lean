/- Contract of package oid's reader of an identifier's content: Read answers the identifier in new memory, or that there is none. -/
import Derived.Test.YtihbgpgiladfkaaDoorOid1
import Derived.Test.YtihbgpgiladfkaaDoorOid4
namespace Go.Proofs.YtihbgpgiladfkaaDoor
open Go.RowKit

def errO (o : Option (List Int)) : Int := if o.isSome then 0 else 8
theorem read_none {xs : List Int} (h : rdN 0 0 xs = none) : readS xs = none := by
  match xs, h with
  | [], _ => rfl
  | x :: r, h =>
    have := nums_rdN (x :: r) 0 0 (.inr (by simp))
    rw [h] at this
    unfold readS
    rw [show numsS false 0 (x :: r) = none by simpa using this]
    rfl
theorem read_more {ys l : List Int} {n : Int} {s : Nat} (h : rdN 0 0 ys = some (n, s)) :
    ((numsS false 0 ys).bind fun ms => guardS (l ++ ms)) = (numsS false 0 (ys.drop s)).bind fun ms => guardS (l ++ [n] ++ ms) := by
  have hne : ys ≠ [] := by rintro rfl; cases h
  have := nums_rdN ys 0 0 (.inr hne)
  rw [h] at this
  rw [show numsS false 0 ys = (numsS false 0 (ys.drop s)).map fun ms => n :: ms by simpa using this]
  cases numsS false 0 (ys.drop s) <;> simp
theorem read_stop {ys l : List Int} (h : rdN 0 0 ys = none) (hne : ys ≠ []) : ((numsS false 0 ys).bind fun ms => guardS (l ++ ms)) = none := by
  have := nums_rdN ys 0 0 (.inr hne)
  rw [h] at this
  rw [show numsS false 0 ys = none by simpa using this]
  rfl
theorem guard_long {l : List Int} (h : 40 < l.length) : guardS l = none := by
  have := chk_long h
  unfold guardS
  rw [if_neg]
  intro hh
  rw [chk, if_pos hh] at this
  cases this
theorem read_full {ys l : List Int} {n : Int} {s : Nat} (h : rdN 0 0 ys = some (n, s)) (hl : l.length = 40) : ((numsS false 0 ys).bind fun ms => guardS (l ++ ms)) = none := by
  rw [read_more h]
  cases numsS false 0 (ys.drop s) with
  | none => rfl
  | some ms => exact guard_long (by simp; omega)
theorem read_first {xs : List Int} {n : Int} {s : Nat} (h : rdN 0 0 xs = some (n, s)) :
    readS xs = (numsS false 0 (xs.drop s)).bind fun ms => guardS ([min (n / 40) 2, n - 40 * min (n / 40) 2] ++ ms) := by
  have hne : xs ≠ [] := by rintro rfl; cases h
  have := nums_rdN xs 0 0 (.inr hne)
  rw [h] at this
  unfold readS
  rw [show numsS false 0 xs = (numsS false 0 (xs.drop s)).map fun ms => n :: ms by simpa using this]
  cases numsS false 0 (xs.drop s) <;> simp [firstTwo]
theorem ok_first {n : Int} (h0 : 0 ≤ n) (h1 : n ≤ maxN) : oidOk [min (n / 40) 2, n - 40 * min (n / 40) 2] = true := by
  unfold maxN at h1
  refine (oidOk_iff _ _ _).2 ⟨?_, fun x hx => by cases hx⟩
  unfold maxN
  simp only [List.length_nil]
  omega
theorem ok_snoc {l : List Int} {n : Int} (h : oidOk l = true) (hl : l.length < 40) (h0 : 0 ≤ n) (h1 : n ≤ maxN) : oidOk (l ++ [n]) = true := by
  match l, h with
  | [], h => simp [oidOk] at h
  | [_], h => simp [oidOk] at h
  | a :: b :: r, h =>
    obtain ⟨⟨h1', h2, h3, h4, h5, h6⟩, h7⟩ := (oidOk_iff a b r).1 h
    simp at hl
    refine (oidOk_iff a b (r ++ [n])).2 ⟨⟨by simp; omega, h2, h3, h4, h5, h6⟩, fun x hx => ?_⟩
    rcases List.mem_append.1 hx with hx | hx
    · exact h7 x hx
    · simp at hx
      subst hx
      exact ⟨h0, h1⟩
theorem guard_ok {l : List Int} (h : oidOk l = true) : guardS l = some l := by unfold guardS; rw [if_pos h]
theorem rdT_some {xs : List Int} {n : Int} {s : Nat} (h : rdN 0 0 xs = some (n, s)) : rdT xs = (n, (s : Int), true) := by unfold rdT; rw [h]
theorem rdT_none {xs : List Int} (h : rdN 0 0 xs = none) : rdT xs = (0, 0, false) := by unfold rdT; rw [h]
theorem U8.drop' {xs : List Int} (h : U8 xs) (n : Nat) : U8 (xs.drop n) := h.drop n

theorem oidNumber_some {v : Value} {xs : List Int} {w : World} {n : Int} {s : Nat} (h : Sl .u8 w v xs) (hu : U8 xs) (hr : rdN 0 0 xs = some (n, s)) :
    Calls Tryd.prog 24 #[v] w fun e w' => e = .returned (.tuple #[.int .i64 n, .int .i64 s, .bool true]) ∧ w = w' := by
  have := oidNumber v xs w h hu
  rwa [rdT_some hr] at this
theorem oidNumber_none {v : Value} {xs : List Int} {w : World} (h : Sl .u8 w v xs) (hu : U8 xs) (hr : rdN 0 0 xs = none) :
    Calls Tryd.prog 24 #[v] w fun e w' => e = .returned (.tuple #[.int .i64 0, .int .i64 0, .bool false]) ∧ w = w' := by
  have := oidNumber v xs w h hu
  rwa [rdT_none hr] at this

def lenV : Value → Nat
  | .slice _ n _ => n
  | _ => 0
theorem num_lt {n : Nat} (h : n < 40) : ((n : Int) == 40) = false := by simp; omega
theorem Sl.form {k : IntKind} {w : World} {v : Value} {xs : List Int} (h : Sl k w v xs) : ∃ a c, v = .slice a xs.length c := by
  obtain ⟨a, c, rfl, -, -, -⟩ := h
  exact ⟨a, c, rfl⟩

set_option maxHeartbeats 1000000 in
theorem oidRead (v : Value) (xs : List Int) (w : World) (h : Sl .u8 w v xs) (hu : U8 xs) (hlim : xs.length ≤ 1000000) :
    Calls Tryd.prog 10 #[v] w fun e w' => ∃ v', e = .returned (.tuple #[v', .int .i64 (errO (readS xs))]) ∧ Own .i64 3 w.heap.size w' v' ((readS xs).getD []) ∧ Below w.heap.size w w' := by
  have H := hid h
  obtain ⟨a0, cap0, rfl, q0, -, -⟩ := h
  clear q0
  cases hr : rdN 0 0 xs with
  | none =>
    have hT := hid hr
    have hR := hid (read_none hr)
    clear hr
    rw [hR.out]
    go_enter Tryd.func10, Tryd.ntmps10
    go_wp2_with (go_at_call 24; refine (oidNumber_none H.out hu hT.out).mono ?_; rintro e w' ⟨rfl, rfl⟩)
    go_ret2
    exact ⟨_, rfl, Own.nil _ _ _ _, Below.refl _ _⟩
  | some p =>
    obtain ⟨n, s⟩ := p
    have hT := hid hr
    have hR := hid (read_first hr)
    obtain ⟨n0, n1⟩ := rdN_le _ _ _ _ _ hu (by omega) hr
    obtain ⟨s0, s1⟩ := rdN_size _ _ _ _ _ hr
    have hok := hid (ok_first n0 n1)
    clear hr
    unfold maxN at n1
    obtain ⟨f, hf⟩ : ∃ f, f = min (n / 40) 2 := ⟨_, rfl⟩
    have f0 : 0 ≤ f ∧ f ≤ 2 := by omega
    obtain ⟨f0, f1⟩ := f0
    have f2 : 40 * f ≤ n ∧ n - 40 * f ≤ n := by omega
    obtain ⟨f2, f3⟩ := f2
    rw [← hf] at hR hok
    have hmin : (if 2 < n / 40 then 2 else n / 40) = f := by rw [hf]; split <;> omega
    have HF := hid hf
    clear hf
    obtain ⟨v3, hc1, hc2, hc3⟩ := cut_all w 23 5 Tryd.underlying23 Tryd.infoU8 .u8 (.slice a0 xs.length cap0) xs H.out (some (.int .i64 (s : Int))) none s xs.length (.inr ⟨_, rfl⟩) (.inl ⟨rfl, rfl⟩) (by omega) (by omega)
    have hs3 : Sl .u8 w v3 (xs.drop s) := by
      have := hc3 w H.out
      rwa [List.take_of_length_le (by simp)] at this
    clear hc3
    have H3 := hid hs3
    clear hs3
    go_enter Tryd.func10, Tryd.ntmps10
    go_wp2_with (go_at_call 24; refine (oidNumber_some H.out hu hT.out).mono ?_; rintro e w' ⟨rfl, rfl⟩)
    clear hc1 hc2 hmin
    go_loopw [0, 8] (fun bv lv wr => ∃ (ys l : List Int), (∃ a c, bv = .slice a ys.length c) ∧ Hid (Sl .u8 w bv ys) ∧ Hid (U8 ys) ∧ Hid (Own .i64 3 w.heap.size wr lv l) ∧ Hid (readS xs = (numsS false 0 ys).bind fun ms => guardS (l ++ ms)) ∧ Hid (oidOk l = true) ∧ l.length ≤ 40 ∧ ys.length ≤ 1000000 ∧ Hid (Below w.heap.size w wr) ∧ w.heap.size ≤ wr.heap.size) (fun bv _ _ => lenV bv)
    case atStart =>
      refine ⟨xs.drop s, [f, n - 40 * f], H3.out.form, H3.out, hu.drop s, lit_own rfl (Nat.le_refl _) rfl rfl (by simp), hR.out, hok.out, by simp, by simp; omega, by (repeat (first | exact Below.refl _ _ | exact below_drewN _ | refine Below.drew ?_ | refine Below.alloc ?_ (by simp) _ | refine Below.setCell ?_ (by simp) _ | refine below_drewN' ?_ _)), by simp⟩
    case round =>
      obtain ⟨ys, l, ⟨ab, cb, rfl⟩, hys, huy, hown, heq, hokl, hl40, hylim, hbel, hsz⟩ := hrel
      obtain ⟨al, cl, hal⟩ := hown.out.sl.form
      subst hal
      rcases Nat.eq_zero_or_pos ys.length with hy0 | hy0
      · have hy : ys = [] := List.eq_nil_of_length_eq_zero hy0
        subst hy
        have hfin : readS xs = some l := by
          rw [heq.out, numsS, if_neg (by simp)]
          simp only [Option.bind_some, List.append_nil]
          exact guard_ok hokl.out
        have HF := hid hfin
        clear hfin heq
        go_wp2_with (fail)
        go_ret2
        rw [HF.out]
        exact ⟨_, rfl, hown.out, hbel.out⟩
      · have hyne : ys ≠ [] := by rintro rfl; simp at hy0
        have HS := hid (hys.out.below hbel.out)
        cases hr2 : rdN 0 0 ys with
        | none =>
          have hfin : readS xs = none := by rw [heq.out]; exact read_stop hr2 hyne
          have HF := hid hfin
          have HR2 := hid hr2
          clear hfin heq hr2 hyne
          go_wp2_with (go_at_call 24; refine (oidNumber_none HS.out huy.out HR2.out).mono ?_; rintro e w' ⟨rfl, rfl⟩)
          go_ret2
          rw [HF.out]
          exact ⟨_, rfl, Own.nil _ _ _ _, hbel.out⟩
        | some p2 =>
          obtain ⟨n2, s2⟩ := p2
          have HR2 := hid hr2
          by_cases hl : l.length = 40
          · have hfin : readS xs = none := by rw [heq.out]; exact read_full hr2 hl
            have HF := hid hfin
            have hl2 : ((l.length : Int) == 40) = true := by simp; omega
            clear hfin heq hr2 hyne
            go_wp2_with (go_at_call 24; refine (oidNumber_some HS.out huy.out HR2.out).mono ?_; rintro e w' ⟨rfl, rfl⟩)
            go_ret2
            rw [HF.out]
            exact ⟨_, rfl, Own.nil _ _ _ _, hbel.out⟩
          · have hl2 := num_lt (n := l.length) (by omega)
            obtain ⟨n20, n21⟩ := rdN_le _ _ _ _ _ huy.out (by omega) hr2
            obtain ⟨s20, s21⟩ := rdN_size _ _ _ _ _ hr2
            have hnext := hid (heq.out.trans (read_more (l := l) hr2))
            have hok2 := hid (ok_snoc hokl.out (by omega) n20 n21)
            obtain ⟨v4, hc1, hc2, hc3⟩ := cut_all w 23 5 Tryd.underlying23 Tryd.infoU8 .u8 (.slice ab ys.length cb) ys hys.out (some (.int .i64 (s2 : Int))) none s2 ys.length (.inr ⟨_, rfl⟩) (.inl ⟨rfl, rfl⟩) (by omega) (by omega)
            have hs4 : Sl .u8 w v4 (ys.drop s2) := by
              have := hc3 w hys.out
              rwa [List.take_of_length_le (by simp)] at this
            have H4 := hid hs4
            clear hc3 hs4 heq hr2 hyne n21
            go_wp2_with (first
              | (go_at_call 24; refine (oidNumber_some HS.out huy.out HR2.out).mono ?_; rintro e w' ⟨rfl, rfl⟩)
              | (at_builtin; go_loud (refine wpList_app _ rfl _ _ 22 rfl .i64 w.heap.size 3 8 Tryd.underlying22 Tryd.infoI64 _ l [n2] rfl (hown.out.below (by (repeat (first | exact Below.refl _ _ | exact below_drewN _ | refine Below.drew ?_ | refine Below.alloc ?_ (by simp) _ | refine Below.setCell ?_ (by simp) _ | refine below_drewN' ?_ _)))) _ rfl (one_sl (by first | simp | rfl)) (by unfold maxLen; first | omega | (simp; omega)) (by first | omega | (simp; omega) | simp) (by first | omega | (simp; omega) | simp) ?_); intro v5 w5 ho5 hg5 hb5 hn5))
            have hz5 := hb5.size
            simp at hz5
            go_roundw
            case rel =>
              refine ⟨ys.drop s2, l ++ [n2], H4.out.form, H4.out, huy.out.drop s2, ho5, hnext.out, hok2.out, by simp; omega, by simp; omega, hbel.out.trans (Below.trans ?_ hb5), by omega⟩
              (repeat (first | exact Below.refl _ _ | exact below_drewN _ | refine Below.drew ?_ | refine Below.alloc ?_ (by simp; omega) _ | refine Below.alloc ?_ (by omega) _ | refine Below.setCell ?_ (by simp; omega) _ | refine below_drewN' ?_ _))
            case measure =>
              obtain ⟨a9, c9, e9⟩ := H4.out.form
              rw [e9]
              simp [lenV]
              omega
end Go.Proofs.YtihbgpgiladfkaaDoor
