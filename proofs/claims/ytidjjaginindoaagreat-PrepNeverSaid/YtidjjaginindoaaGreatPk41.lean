/- Several texts in one: Prep21b, Prep21c, Prep21d, Prep21e. -/
import Derived.Test.YtidjjaginindoaaGreatPk26
import Derived.Test.YtidjjaginindoaaGreatPk31
import Derived.Lib.AppendZeros
import Derived.Test.YtidjjaginindoaaGreatPk38
import Derived.Test.YtidjjaginindoaaGreatPk40
/-! Prep21b -/
namespace Go.Proofs.YtidjjaginindoaaGreat
open Go.RowKit
set_option linter.unusedVariables false

/-- a slice of the call's own that holds pieces of numbers of the world ahead of the call -/
def PcW (w0 w : World) (v : Value) (ws : List (List Int)) : Prop :=
  ∃ us : List Value, us.length = ws.length ∧ w.ownsRow w0.heap.size 22 1 v us.length us ∧ ∀ i, i < us.length → Sl .i64 w0 (us.getD i undef) (ws.getD i [])
theorem PcW.below {w0 w w' : World} {v : Value} {ws : List (List Int)} (h : PcW w0 w v ws) (hb : Below w.heap.size w w') : PcW w0 w' v ws := by
  obtain ⟨us, h1, h2, h3⟩ := h
  exact ⟨us, h1, row_belowW h2 hb, h3⟩
theorem PcW.nil (w0 w : World) : PcW w0 w (.slice none 0 0) [] := ⟨[], rfl, World.ownsRow_nil _ _ _ _, fun i hi => by simp at hi⟩
theorem PcW.form {w0 w : World} {v : Value} {ws : List (List Int)} (h : PcW w0 w v ws) : ∃ a c, v = .slice a ws.length c := by
  obtain ⟨us, h1, h2, h3⟩ := h
  rcases h2.2 with ⟨rfl, hn⟩ | ⟨g, cap, cur, rfl, -⟩
  · exact ⟨none, 0, by rw [← h1, hn]⟩
  · exact ⟨_, _, by rw [← h1]⟩
/-- where the pieces lie -/
theorem PcW.at {w0 w : World} {a : Option Addr} {n c : Nat} {ws : List (List Int)} (h : PcW w0 w (.slice a n c) ws) (h0 : 0 < ws.length) : ∃ g, a = some ⟨g, 0, none⟩ ∧ g < w.heap.size ∧ ∀ i, i < ws.length → ∃ u, w.cell? ⟨g, i, none⟩ = some u ∧ Sl .i64 w0 u (ws.getD i []) := by
  obtain ⟨us, h1, h2, h3⟩ := h
  rcases h2.2 with ⟨-, hn⟩ | ⟨g, cap, cur, hv, hb, hg, hnc, hcm, hcs, ht⟩
  · omega
  · injection hv with hv _ _
    refine ⟨g, hv, (Array.getElem?_eq_some_iff.1 hg).1, fun i hi => ⟨us.getD i undef, ?_, h3 i (by omega)⟩⟩
    rw [cell_of_row w g i cur _ (0, 0) hg]
    have : (cur.toList.take (us.length * 1))[i]? = us[i]? := by rw [ht]
    rw [List.getElem?_take, if_pos (by omega)] at this
    rw [← Array.getElem?_toList, this, List.getD_eq_getElem?_getD, List.getElem?_eq_getElem (by omega)]
    rfl
/-- append(rows, piece) -/
theorem wpList_appPc {P : Program} (w0 w : World) {ops : Array Oper} {rest : List Oper} {o : Oper} {a : Act} {Q : Exit → Act → World → Prop} (hgd : o.guard = none) (s x : Operand) (t : TypeId)
    (ho : o.op = .call { callee := .builtin .append, args := #[s, x], argTypes := #[t, t] }) (ht : P.underlying t = some (.slice 22)) (hinfo : (P.info? 22).map (fun i => (i.zero, i.size, i.bytes)) = some (some (.slice none 0 0), 1, 24))
    (v : Value) (ws : List (List Int)) (hs : a.eval s = v) (hown : PcW w0 w v ws) (b c : Nat) (hx : a.eval x = .slice (some ⟨b, 0, none⟩) 1 c) (u : Value) (y : List Int) (hc : w.cell? ⟨b, 0, none⟩ = some u) (hu : Sl .i64 w0 u y)
    (hl : ws.length ≤ 1000000) (hbase : w0.heap.size ≤ w.heap.size)
    (h : ∀ v' w', PcW w0 w' v' (ws ++ [y]) → Below w0.heap.size w w' → wpList P ops Q rest (a.put o.dst v') w') : wpList P ops Q (o :: rest) a w := by
  obtain ⟨i, hi, hz0, hz1, hz2⟩ := info_parts hinfo
  obtain ⟨us, h1, h2, h3⟩ := hown
  have hoc : u.oneCell' = true := by obtain ⟨a1, c1, rfl, -⟩ := hu; rfl
  refine wpList_append_own w hgd s x t ho w0.heap.size 22 i (.slice none 0 0) 1 24 ht hi hz0 hz1 hz2 rfl (by decide) v us.length us hs h2 ⟨b, 0, none⟩ 1 c [u] hx rfl ?_ (by simp [hoc]) (by unfold maxLen; omega) (by omega) hbase ?_
  · intro j z hj
    match j, hj with
    | 0, hj => simp at hj; subst hj; simpa [Addr.add] using hc
    | j + 1, hj => simp at hj
  · intro v' w' hown' hg _
    refine h v' w' ⟨us ++ [u], by simp [h1], by simpa using hown', fun j hj => ?_⟩ ((Below.refl _ w).grown hg hbase (fun k hk => (World.ownsRow.lt h2 k hk).1))
    rw [List.length_append, List.length_singleton] at hj
    by_cases hjl : j < us.length
    · rw [getD_left hjl, getD_left (by omega)]
      exact h3 j hjl
    · obtain rfl : j = us.length := by omega
      rw [getD_last, h1, getD_last]
      exact hu
/-- v[i:j] of numbers of an older world -/
theorem wpList_spanW {P : Program} (w0 w : World) {ops : Array Oper} {rest : List Oper} {o : Oper} {a : Act} {Q : Exit → Act → World → Prop} (hgd : o.guard = none) (x lo hi : Operand) (t : TypeId)
    (ho : o.op = .slice t x (some lo) (some hi) none) (k : IntKind) (e : TypeId) (bytes : Nat) (ht : P.underlying t = some (.slice e)) (hinfo : (P.info? e).map (fun i => (i.zero, i.size, i.bytes)) = some (some (.int k 0), 1, bytes))
    (v : Value) (xs : List Int) (hx : a.eval x = v) (hs : Sl k w0 v xs) (kk kj : IntKind) (i j : Nat) (hlo : a.eval lo = .int kk (i : Int)) (hhi : a.eval hi = .int kj (j : Int)) (hij : i ≤ j) (h1 : j ≤ xs.length)
    (h : ∀ v', Sl k w0 v' ((xs.drop i).take (j - i)) → wpList P ops Q rest (a.put o.dst v') w) : wpList P ops Q (o :: rest) a w := by
  obtain ⟨v', hrun, hrun2, hv'⟩ := cut_all (P := P) w0 t e ht hinfo k v xs hs (some (.int kk (i : Int))) (some (.int kj (j : Int))) i j (.inr ⟨kk, rfl⟩) (.inr ⟨kj, rfl⟩) hij h1
  refine wpList_plain hgd fun K hK => ?_
  unfold Oper.wp
  simp [execOp, ho, hx, hlo, hhi, hrun w, Result.andThen]
  exact hK _ _ (h v' (hv' w0 hs))
/-- v[i:] of numbers of an older world -/
theorem wpList_fromW {P : Program} (w0 w : World) {ops : Array Oper} {rest : List Oper} {o : Oper} {a : Act} {Q : Exit → Act → World → Prop} (hgd : o.guard = none) (x lo : Operand) (t : TypeId)
    (ho : o.op = .slice t x (some lo) none none) (k : IntKind) (e : TypeId) (bytes : Nat) (ht : P.underlying t = some (.slice e)) (hinfo : (P.info? e).map (fun i => (i.zero, i.size, i.bytes)) = some (some (.int k 0), 1, bytes))
    (v : Value) (xs : List Int) (hx : a.eval x = v) (hs : Sl k w0 v xs) (kk : IntKind) (i : Nat) (hlo : a.eval lo = .int kk (i : Int)) (h1 : i ≤ xs.length)
    (h : ∀ v', Sl k w0 v' (xs.drop i) → wpList P ops Q rest (a.put o.dst v') w) : wpList P ops Q (o :: rest) a w := by
  obtain ⟨v', hrun, hrun2, hv'⟩ := cut_all (P := P) w0 t e ht hinfo k v xs hs (some (.int kk (i : Int))) none i xs.length (.inr ⟨kk, rfl⟩) (.inl ⟨rfl, rfl⟩) h1 (Nat.le_refl _)
  refine wpList_plain hgd fun K hK => ?_
  unfold Oper.wp
  simp [execOp, ho, hx, hlo, hrun w, Result.andThen]
  refine hK _ _ (h v' ?_)
  have := hv' w0 hs
  rwa [List.take_of_length_le (by simp)] at this

/-! ### a space -/
set_option maxHeartbeats 4000000 in
theorem prIsSpace (v : Value) (s : List Int) (j : Nat) (w : World) (hs : Sl .i64 w v s) (hj : j < s.length) (hl : s.length ≤ 1000000) : Calls Tryz.prog 73 #[v, .int .i64 (j : Int)] w fun e w' => e = .returned (.bool (spB (s.getD j 0) (s.drop (j + 1)))) ∧ Below w.heap.size w w' := by
  obtain ⟨a1, cap1, rfl, q1, -, h1⟩ := hs
  obtain ⟨n, hn⟩ : ∃ n, n = s.length := ⟨_, rfl⟩
  rcases h1 with hcc | ⟨b1, o1, rfl, -, hc⟩
  · omega
  have d0 := hc j hj
  have D1 := hid (fun (h : j + 1 < n) => (⟨hc (j + 1) (by omega), drop_getD rfl (by omega)⟩ : _ ∧ s.drop (j + 1) = s.getD (j + 1) 0 :: s.drop (j + 1 + 1)))
  have D2 := hid (fun (h : j + 1 = n) => (show s.drop (j + 1) = [] from List.drop_eq_nil_iff.2 (by omega)))
  obtain ⟨sp, hsp⟩ : ∃ sp, sp = spB (s.getD j 0) (s.drop (j + 1)) := ⟨_, rfl⟩
  rw [← hsp]
  generalize s.getD j 0 = c at d0 hsp
  have HSP := hid hsp
  clear hsp hc
  rw [← hn] at q1 hj hl ⊢
  clear hn
  have hltI : (j : Int) < (n : Int) := by omega
  by_cases h32 : c = 32
  · subst h32
    by_cases hend : j + 1 = n
    · have HS := hid (show sp = true from by rw [HSP.out, D2.out hend]; rfl)
      have ee : (((j : Int) + 1) == (n : Int)) = true := by simp; omega
      go_enter Tryz.func73, Tryz.ntmps73
      go_wp2_with (fail)
      go_ret
      exact ⟨by rw [HS.out]; rfl, by (repeat (first | exact Below.refl _ _ | exact below_drewN _ | refine Below.drew ?_ | refine Below.alloc ?_ (by simp) _ | refine Below.setCell ?_ (by simp) _ | refine below_drewN' ?_ _))⟩
    · obtain ⟨e1, e2⟩ := D1.out (by omega)
      have d2 := e1
      generalize s.getD (j + 1) 0 = d at d2 e2
      have HS := hid (show sp = (classS d == 0) from by rw [HSP.out, e2]; exact sp_behind)
      have HCL := hid (fun w' => ucdClass d w')
      have ee : (((j : Int) + 1) == (n : Int)) = false := by simp; omega
      have g1 : IntKind.i64.wrap ((j : Int) + 1) = ((j + 1 : Nat) : Int) := by rw [IntKind.wrap_i64]; omega
      have g2 : ((j + 1 : Nat) : Int) < (n : Int) := by omega
      have ee2 : (((j + 1 : Nat) : Int) == (n : Int)) = false := by simp; omega
      obtain ⟨q, hq⟩ : ∃ q, q = (classS d == 0) := ⟨_, rfl⟩
      have HQ := hid (HS.out.trans hq.symm)
      replace hq := hq.symm
      clear e1 e2
      generalize classS d = cd at HCL hq
      go_enter Tryz.func73, Tryz.ntmps73
      go_wp2_with (go_at_call 93; refine (HCL.out _).mono ?_; rintro e w1 ⟨rfl, hb1⟩; have HB1 := hid hb1; clear hb1)
      go_ret
      exact ⟨by rw [HQ.out]; rfl, HB1.out⟩
  · have HS := hid (show sp = false from by rw [HSP.out]; exact sp_other h32)
    have e1 : (c == 32) = false := by simpa using h32
    clear h32
    go_enter Tryz.func73, Tryz.ntmps73
    go_wp2_with (fail)
    go_ret
    exact ⟨by rw [HS.out]; rfl, by (repeat (first | exact Below.refl _ _ | exact below_drewN _ | refine Below.drew ?_ | refine Below.alloc ?_ (by simp) _ | refine Below.setCell ?_ (by simp) _ | refine below_drewN' ?_ _))⟩
end Go.Proofs.YtidjjaginindoaaGreat

/-! Prep21c -/
namespace Go.Proofs.YtidjjaginindoaaGreat
open Go.RowKit
set_option linter.unusedVariables false

/-- how far the words of s are found: those that are done, and where the one that is open begins -/
def WdS (s : List Int) (j b : Nat) (ws : List (List Int)) : Prop :=
  b ≤ j ∧ ws.length ≤ j ∧ wordsA [] s = ws ++ wordsA ((s.drop b).take (j - b)) (s.drop j)
theorem wd_start (s : List Int) : WdS s 0 0 [] := ⟨Nat.le_refl _, by simp, by simp⟩
theorem wd_in {s : List Int} {j b : Nat} {ws : List (List Int)} (h : WdS s j b ws) (hj : j < s.length) (hp : spB (s.getD j 0) (s.drop (j + 1)) = false) : WdS s (j + 1) b ws := by
  obtain ⟨h1, h2, h3⟩ := h
  refine ⟨by omega, by omega, ?_⟩
  rw [h3, drop_getD (k := j) rfl hj, words_in hp]
  congr 2
  have e : j + 1 - b = (j - b) + 1 := by omega
  rw [e, List.take_add_one, List.getElem?_drop, show b + (j - b) = j from by omega, List.getElem?_eq_getElem hj, List.getD_eq_getElem?_getD, List.getElem?_eq_getElem hj]
  rfl
theorem seg_nil {s : List Int} {j b : Nat} (h : b ≤ j) (hj : j ≤ s.length) : (s.drop b).take (j - b) = [] ↔ b = j := by
  constructor
  · intro e
    have := congrArg List.length e
    simp at this
    omega
  · rintro rfl
    simp
theorem wd_sp {s : List Int} {j b : Nat} {ws : List (List Int)} (h : WdS s j b ws) (hj : j < s.length) (hp : spB (s.getD j 0) (s.drop (j + 1)) = true) : WdS s (j + 1) (j + 1) (if b < j then ws ++ [(s.drop b).take (j - b)] else ws) := by
  obtain ⟨h1, h2, h3⟩ := h
  refine ⟨Nat.le_refl _, by split <;> (try simp only [List.length_append, List.length_singleton]) <;> omega, ?_⟩
  rw [h3, drop_getD (k := j) rfl hj, words_sp hp, Nat.sub_self, List.take_zero]
  by_cases hb : b < j
  · rw [if_pos hb, if_neg (by rw [seg_nil h1 (by omega)]; omega), ← List.append_assoc]
  · rw [if_neg hb, if_pos (by rw [seg_nil h1 (by omega)]; omega), List.nil_append]
theorem wd_end {s : List Int} {b : Nat} {ws : List (List Int)} (h : WdS s s.length b ws) : wordsA [] s = if b < s.length then ws ++ [s.drop b] else ws := by
  obtain ⟨h1, h2, h3⟩ := h
  rw [h3, List.drop_length, List.take_of_length_le (by simp)]
  by_cases hb : b < s.length
  · rw [if_pos hb, wordsA, if_neg (fun e => by have := congrArg List.length e; simp at this; omega)]
  · rw [if_neg hb, wordsA, if_pos (List.drop_eq_nil_iff.2 (by omega)), List.append_nil]
theorem wd_all {s : List Int} : ∀ (cur : List Int) (x : List Int), x ∈ wordsA cur s → x.length ≤ cur.length + s.length := by
  induction s with
  | nil =>
    intro cur x hx
    rw [wordsA] at hx
    split at hx
    · simp at hx
    · rw [List.mem_singleton.1 hx]; simp
  | cons c r ih =>
    intro cur x hx
    rw [wordsA] at hx
    split at hx
    · split at hx
      · have := ih [] x hx; simp at this ⊢; omega
      · rcases List.mem_cons.1 hx with rfl | hx
        · simp
        · have := ih [] x hx; simp at this ⊢; omega
    · have := ih (cur ++ [c]) x hx
      simp at this ⊢
      omega
theorem wd_sum {s : List Int} : ∀ (cur : List Int), (wordsA cur s).flatten.length ≤ cur.length + s.length ∧ (wordsA cur s).length ≤ 1 + s.length := by
  induction s with
  | nil =>
    intro cur
    rw [wordsA]
    split
    · simp
    · simp
  | cons c r ih =>
    intro cur
    rw [wordsA]
    have i0 := ih []
    have i1 := ih (cur ++ [c])
    split
    · split
      · simp at i0 ⊢; omega
      · simp at i0 ⊢; omega
    · simp at i1 ⊢; omega
set_option maxHeartbeats 8000000 in
theorem prWords (v : Value) (s : List Int) (w : World) (hs : Sl .i64 w v s) (hl : s.length ≤ 1000000) : Calls Tryz.prog 43 #[v] w fun e w' =>
    ∃ x, e = .returned x ∧ PcW w w' x (wordsA [] s) ∧ Below w.heap.size w w' := by
  have HS := hid hs
  obtain ⟨a1, c1, rfl⟩ := hs.form
  obtain ⟨n, hn⟩ : ∃ n, n = s.length := ⟨_, rfl⟩
  obtain ⟨R, hR⟩ : ∃ R, R = wordsA [] s := ⟨_, rfl⟩
  have HN := hid hn
  have HR := hid hR
  rw [← hR]
  rw [← hn] at hl HS ⊢
  clear hs hn hR
  go_enter Tryz.func43, Tryz.ntmps43
  go_wp2_with (fail)
  go_loopw [3, 4, 5, 8] (fun lv bv _ iv wr => ∃ (j b : Nat) (ws : List (List Int)), j ≤ n ∧ b ≤ j ∧ bv = .int .i64 (b : Int) ∧ iv = .int .i64 (j : Int) ∧ Hid (PcW w wr lv ws) ∧ Hid (Below w.heap.size w wr) ∧ Hid (WdS s j b ws)) (fun _ _ _ iv _ => n - (intOf iv).toNat)
  case atStart => exact ⟨0, 0, [], by omega, by omega, rfl, rfl, PcW.nil _ _, Below.refl _ _, wd_start s⟩
  case round =>
    obtain ⟨j, b, ws, hj, hbj, rfl, rfl, hpc, hbel, hwd⟩ := hrel
    by_cases hlt : j < n
    · have HSr := hid (HS.out.below hbel.out)
      have HI := hid (prIsSpace _ s j wr HSr.out (by have := HN.out; omega) (by have := HN.out; omega))
      have HIN := hid (wd_in hwd.out (by have := HN.out; omega))
      have HSP := hid (wd_sp hwd.out (by have := HN.out; omega))
      have HW := hid (show ws.length ≤ j from hwd.out.2.1)
      clear hwd
      generalize spB (s.getD j 0) (s.drop (j + 1)) = sp at HI HIN HSP
      obtain ⟨la, lc, rfl⟩ := hpc.out.form
      cases sp with
      | false =>
        have HX := hid (HIN.out rfl)
        clear HIN HSP
        go_wp2_with (go_at_call 73; refine HI.out.mono ?_; rintro e w1 ⟨rfl, hb1⟩; have HB1 := hid hb1; clear hb1)
        go_roundw
        case rel => exact ⟨j + 1, b, ws, by omega, by omega, rfl, by go_num, hpc.out.below HB1.out, hbel.out.trans (HB1.out.mono hbel.out.size), HX.out⟩
        case measure => simp [intOf]; omega
      | true =>
        have HX := hid (HSP.out rfl)
        clear HIN HSP
        by_cases hb : b < j
        · rw [if_pos hb] at HX
          have HLW := HW.out
          go_wp2_with (first
            | (go_at_call 73; refine HI.out.mono ?_; rintro e w1 ⟨rfl, hb1⟩; have HB1 := hid (hbel.out.trans (hb1.mono hbel.out.size)); have HP1 := hid (hpc.out.below hb1); clear hb1)
            | (with_reducible refine at_span ?_; go_loud (refine wpList_spanW w _ rfl _ _ _ _ rfl .i64 3 8 Tryz.underlying22 Tryz.infoI64 (.slice a1 n c1) s rfl HS.out .i64 .i64 b j rfl rfl (by omega) (by have := HN.out; omega) ?_); intro v2 hv2; obtain ⟨a2, c2, he2⟩ := hv2.form; generalize ((s.drop b).take (j - b)).length = k2 at he2; subst he2; have HV2 := hid hv2; clear hv2)
            | (at_builtin; go_loud (refine wpList_appPc w _ rfl _ _ 54 rfl Tryz.underlying54 infoSl _ ws rfl (HP1.out.below (by (repeat (first | exact Below.refl _ _ | exact below_drewN _ | refine Below.drew ?_ | refine Below.alloc ?_ (by simp) _ | refine Below.setCell ?_ (by simp) _ | refine below_drewN' ?_ _)))) w1.heap.size 1 rfl (.slice a2 k2 c2) _ ((Box.made w1 22 [.slice a2 k2 c2]).cell 0) HV2.out (by omega) (by have := HB1.out.size; simp; omega) ?_); intro v3 w3 hp3 hb3; have HP3 := hid hp3; have HB3 := hid ((HB1.out.alloc HB1.out.size _).trans hb3); clear hp3 hb3))
          go_roundw
          case rel => exact ⟨j + 1, j + 1, _, by omega, by omega, by go_num, by go_num, HP3.out, HB3.out, HX.out⟩
          case measure => simp [intOf]; omega
        · rw [if_neg hb] at HX
          go_wp2_with (go_at_call 73; refine HI.out.mono ?_; rintro e w1 ⟨rfl, hb1⟩; have HB1 := hid hb1; clear hb1)
          go_roundw
          case rel => exact ⟨j + 1, j + 1, ws, by omega, by omega, by go_num, by go_num, hpc.out.below HB1.out, hbel.out.trans (HB1.out.mono hbel.out.size), HX.out⟩
          case measure => simp [intOf]; omega
    · obtain rfl : j = n := by omega
      have HE := hid (show R = if b < j then ws ++ [s.drop b] else ws from by
        rw [HR.out]
        have h := hwd.out
        rw [HN.out] at h ⊢
        exact wd_end h)
      have HW := hid (show ws.length ≤ j from hwd.out.2.1)
      clear hwd
      by_cases hb : b < j
      · rw [if_pos hb] at HE
        have HLW := HW.out
        go_wp2_with (first
          | (with_reducible refine at_from ?_; go_loud (refine wpList_fromW w _ rfl _ _ _ rfl .i64 3 8 Tryz.underlying22 Tryz.infoI64 (.slice a1 j c1) s rfl HS.out .i64 b rfl (by have := HN.out; omega) ?_); intro v2 hv2; obtain ⟨a2, c2, he2⟩ := hv2.form; generalize (s.drop b).length = k2 at he2; subst he2; have HV2 := hid hv2; clear hv2)
          | (at_builtin; go_loud (refine wpList_appPc w _ rfl _ _ 54 rfl Tryz.underlying54 infoSl _ ws rfl (hpc.out.below (by (repeat (first | exact Below.refl _ _ | exact below_drewN _ | refine Below.drew ?_ | refine Below.alloc ?_ (by simp) _ | refine Below.setCell ?_ (by simp) _ | refine below_drewN' ?_ _)))) wr.heap.size 1 rfl (.slice a2 k2 c2) _ ((Box.made wr 22 [.slice a2 k2 c2]).cell 0) HV2.out (by omega) (by have := hbel.out.size; simp; omega) ?_); intro v3 w3 hp3 hb3; have HP3 := hid hp3; have HB3 := hid ((hbel.out.alloc hbel.out.size _).trans hb3); clear hp3 hb3))
        go_ret
        exact ⟨_, rfl, by rw [HE.out]; exact HP3.out, HB3.out⟩
      · rw [if_neg hb] at HE
        go_wp2_with (fail)
        go_ret
        exact ⟨_, rfl, by rw [HE.out]; exact hpc.out, hbel.out⟩
end Go.Proofs.YtidjjaginindoaaGreat

/-! Prep21d -/
namespace Go.Proofs.YtidjjaginindoaaGreat
open Go.RowKit
set_option linter.unusedVariables false

/-- a slice that holds pieces of numbers -/
def PcR (w : World) (v : Value) (ws : List (List Int)) : Prop :=
  ∃ a c, v = .slice a ws.length c ∧ (0 < ws.length → ∃ g, a = some ⟨g, 0, none⟩ ∧ g < w.heap.size ∧ ∀ i, i < ws.length → ∃ u, w.cell? ⟨g, i, none⟩ = some u ∧ Sl .i64 w u (ws.getD i []))
theorem PcW.rd {w0 w : World} {v : Value} {ws : List (List Int)} (h : PcW w0 w v ws) (hb : Below w0.heap.size w0 w) : PcR w v ws := by
  obtain ⟨a, c, rfl⟩ := h.form
  refine ⟨a, c, rfl, fun h0 => ?_⟩
  obtain ⟨g, h1, h2, h3⟩ := h.at h0
  exact ⟨g, h1, h2, fun i hi => by obtain ⟨u, h4, h5⟩ := h3 i hi; exact ⟨u, h4, h5.below hb⟩⟩
def spS (ws : List (List Int)) : List Int := ws.flatMap fun x => 32 :: (x ++ [32])
theorem spS_take {ws : List (List Int)} {j : Nat} (h : j < ws.length) : spS (ws.take (j + 1)) = spS (ws.take j) ++ [32] ++ ws.getD j [] ++ [32] := by
  unfold spS
  rw [take_snoc h, List.flatMap_append]
  simp
theorem spS_join : ∀ ws : List (List Int), ws ≠ [] → spS ws = 32 :: (joinP ws ++ [32])
  | [], h => absurd rfl h
  | [w], _ => by simp [spS, joinP]
  | w :: x :: ws, _ => by
    have ih := spS_join (x :: ws) (by simp)
    unfold spS at ih ⊢
    rw [List.flatMap_cons, ih, joinP]
    simp
theorem flat_take {ws : List (List Int)} {j : Nat} (h : j < ws.length) : (ws.take (j + 1)).flatten = (ws.take j).flatten ++ ws.getD j [] := by
  rw [take_snoc h, List.flatten_append]
  simp
theorem flat_le (ws : List (List Int)) (j : Nat) : (ws.take j).flatten.length ≤ ws.flatten.length := by
  conv => rhs; rw [← List.take_append_drop j ws, List.flatten_append, List.length_append]
  omega
theorem spS_len (ws : List (List Int)) : (spS ws).length = ws.flatten.length + 2 * ws.length := by
  unfold spS
  induction ws with
  | nil => rfl
  | cons w ws ih =>
    simp only [List.flatMap_cons, List.length_append, List.length_cons, List.flatten_cons, List.length_nil, ih]
    omega

set_option maxHeartbeats 8000000 in
theorem prSpaced (v : Value) (ws : List (List Int)) (w : World) (h : PcR w v ws) (hl : ws.length ≤ 2000000) (hsum : ws.flatten.length ≤ 2000000) : Calls Tryz.prog 45 #[v] w fun e w' =>
    ∃ x, e = .returned x ∧ Sl .i64 w' x (if ws = [] then [32, 32] else spS ws) ∧ Below w.heap.size w w' := by
  obtain ⟨a, c, rfl, hat⟩ := h
  obtain ⟨n, hn⟩ : ∃ n, n = ws.length := ⟨_, rfl⟩
  have HN := hid hn
  by_cases h0 : n = 0
  · have hw0 : ws = [] := List.eq_nil_of_length_eq_zero (by omega)
    rw [if_pos hw0, ← hn]
    subst h0
    clear hat hl hsum hn HN hw0
    go_enter Tryz.func45, Tryz.ntmps45
    go_wp2_with (fail)
    go_ret
    exact ⟨_, rfl, lit_sl (by first | simp | rfl) rfl rfl (by simp), by (repeat (first | exact Below.refl _ _ | exact below_drewN _ | refine Below.drew ?_ | refine Below.alloc ?_ (by simp) _ | refine Below.setCell ?_ (by simp) _ | refine below_drewN' ?_ _))⟩
  · have hw0 : ws ≠ [] := fun e => h0 (by rw [hn, e]; rfl)
    rw [if_neg hw0]
    obtain ⟨g, rfl, hg, hat⟩ := hat (by omega)
    have HA := hid hat
    have HG := hid hg
    obtain ⟨R, hR⟩ : ∃ R, R = spS ws := ⟨_, rfl⟩
    have HR := hid hR
    have e0 : ((n : Int) == 0) = false := by simp; omega
    rw [← hR]
    rw [← hn] at hl ⊢
    clear hat hg hn hR hw0 h0
    go_enter Tryz.func45, Tryz.ntmps45
    go_wp2_with (fail)
    go_loopw [3, 5, 12] (fun lv _ iv wr => ∃ (j : Nat) (x : List Int), j ≤ n ∧ x.length ≤ 6000000 ∧ iv = .int .i64 (j : Int) ∧ Hid (Own .i64 3 w.heap.size wr lv x) ∧ Hid (Below w.heap.size w wr) ∧ Hid (x = spS (ws.take j))) (fun _ _ iv _ => n - (intOf iv).toNat)
    case atStart => exact ⟨0, [], by omega, by simp, rfl, Own.nil _ _ _ _, Below.refl _ _, rfl⟩
    case round =>
      obtain ⟨j, x, hj, hxl, rfl, hown, hbel, hput⟩ := hrel
      by_cases hlt : j < n
      · obtain ⟨u, hu1, hu2⟩ := HA.out j (by have := HN.out; omega)
        have d1 := (hbel.out.cell (p := ⟨g, j, none⟩) HG.out).trans hu1
        have HU := hid hu2
        have HP := hid (show spS (ws.take (j + 1)) = x ++ [32] ++ ws.getD j [] ++ [32] from by rw [spS_take (by have := HN.out; omega), hput.out])
        have HLP := hid (show (x ++ [32] ++ ws.getD j [] ++ [32]).length ≤ 6000000 from by
          rw [← HP.out, spS_len]
          have := flat_le ws (j + 1)
          rw [List.length_take]
          omega)
        clear hput hu1 hu2
        generalize ws.getD j [] = y at HU HP HLP
        have hyl : x.length + 1 + y.length + 1 ≤ 6000000 := by have := HLP.out; simp at this; omega
        go_wp2_with (first
          | (have _u := HO2; clear _u; at_builtin; go_loud (refine wpList_app _ rfl _ _ 22 rfl .i64 w.heap.size 3 8 Tryz.underlying22 Tryz.infoI64 _ (x ++ [32] ++ y) [32] rfl (HO2.out.alloc _) _ rfl (one_sl (by first | simp | rfl)) (by unfold maxLen; simp; omega) (by simp; omega) (by have := HB2.out.size; simp; omega) ?_); intro v5 w5 ho5 hg5 hb5 hn5; have HO5 := hid ho5; have HB5 := hid ((HB2.out.alloc HB2.out.size _).trans hb5); clear ho5 hg5 hb5 hn5)
          | (have _u := HO1; clear _u; at_builtin; go_loud (refine wpList_app _ rfl _ _ 22 rfl .i64 w.heap.size 3 8 Tryz.underlying22 Tryz.infoI64 _ (x ++ [32]) y rfl HO1.out _ rfl (HU.out.below HB1.out) (by unfold maxLen; simp; omega) (by simp; omega) (by have := HB1.out.size; simp; omega) ?_); intro v2 w2 ho2 hg2 hb2 hn2; have HO2 := hid ho2; have HB2 := hid (HB1.out.trans hb2); clear ho2 hg2 hb2 hn2)
          | (at_builtin; go_loud (refine wpList_app _ rfl _ _ 22 rfl .i64 w.heap.size 3 8 Tryz.underlying22 Tryz.infoI64 _ x [32] rfl (hown.out.alloc _) _ rfl (one_sl (by first | simp | rfl)) (by unfold maxLen; simp; omega) (by simp; omega) (by have := hbel.out.size; simp; omega) ?_); intro v1 w1 ho1 hg1 hb1 hn1; have HO1 := hid ho1; have HB1 := hid ((hbel.out.alloc hbel.out.size _).trans hb1); clear ho1 hg1 hb1 hn1))
        go_roundw
        case rel => exact ⟨j + 1, _, by omega, HLP.out, by go_num, HO5.out, HB5.out, HP.out.symm⟩
        case measure => simp [intOf]; omega
      · obtain rfl : j = n := by omega
        have HX := hid (show x = R by rw [hput.out, HR.out, HN.out, List.take_length])
        go_wp2
        go_ret
        exact ⟨_, rfl, by rw [← HX.out]; exact hown.out.sl, hbel.out⟩

/-! ### slices.Grow and slices.Concat -/
theorem grow_own {base c : Nat} {cs : Array Value} {w : World} (hb : base ≤ w.heap.size) (hc : cs.size = c) (hm : c ≤ maxLen) : Own .i64 3 base (w.alloc (.cells cs 3)) (.slice (some ⟨w.heap.size, 0, none⟩) 0 c) [] :=
  ⟨by simp, .inr ⟨w.heap.size, c, _, rfl, hb, heap_alloc_new w _, by simp, hm, by simp [hc], by simp⟩⟩
set_option maxHeartbeats 2000000 in
theorem prGrow (n : Nat) (hn : n ≤ 2000000) (w : World) : Calls Tryz.prog 74 #[.slice none 0 0, .int .i64 (n : Int)] w fun e w' => ∃ x, e = .returned x ∧ Own .i64 3 w.heap.size w' x [] ∧ Below w.heap.size w w' := by
  have hneg : ¬((n : Int) < 0) := by omega
  by_cases h0 : n = 0
  · subst h0
    go_enter Tryz.func74, Tryz.ntmps74
    go_wp2_with (fail)
    go_ret
    exact ⟨_, rfl, Own.nil _ _ _ _, Below.refl _ _⟩
  · obtain ⟨i, hi, hz0, hz1, hz2⟩ := info_parts Tryz.infoI64
    have HR := hid (fun W : World => Lib.run_append_nil_zeros (P := Tryz.prog) W 22 3 22 3 i (.int .i64 0) (.i64) (.i64) Tryz.underlying22 (by kernel_rfl) hi hz0 n (by omega) (by rw [hz1]; omega) (by omega) (by rw [hz2]; omega))
    have hpos : (n : Int) > 0 := by omega
    clear hi hz0 hz1 hz2
    go_enter Tryz.func74, Tryz.ntmps74
    go_wp2_with (at_builtin; go_loud (refine Lib.wpList_append_run _ rfl _ _ _ _ rfl _ _ rfl rfl _ _ (HR.out _) ?_))
    go_ret
    exact ⟨_, rfl, grow_own (Nat.le_refl _) (by have := grownCap_ge w n 0 3; simp [size_zeroCells]; omega) (grownCap_le_maxLen w n 0 3 (by unfold maxLen; omega)), by (repeat (first | exact Below.refl _ _ | exact below_drewN _ | refine Below.drew ?_ | refine Below.alloc ?_ (by simp) _ | refine Below.setCell ?_ (by simp) _ | refine below_drewN' ?_ _))⟩

set_option maxHeartbeats 8000000 in
theorem prConcat (v : Value) (ws : List (List Int)) (w : World) (h : PcR w v ws) (hl : ws.length ≤ 2000000) (hsum : ws.flatten.length ≤ 2000000) : Calls Tryz.prog 44 #[v] w fun e w' =>
    ∃ x, e = .returned x ∧ Own .i64 3 w.heap.size w' x ws.flatten ∧ Below w.heap.size w w' := by
  obtain ⟨a, c, rfl, hat⟩ := h
  obtain ⟨n, hn⟩ : ∃ n, n = ws.length := ⟨_, rfl⟩
  have HN := hid hn
  have HA := hid hat
  obtain ⟨R, hR⟩ : ∃ R, R = ws.flatten := ⟨_, rfl⟩
  have HR := hid hR
  have HS := hid hsum
  rw [← hR]
  rw [← hn] at hl ⊢
  have HZ := hid (fun (j : Nat) => Nat.le_trans (flat_le ws j) HS.out)
  clear hat hn hR hsum
  go_enter Tryz.func44, Tryz.ntmps44
  go_wp2_with (fail)
  go_loopw [3, 5, 11] (fun sv _ iv wr => ∃ (j m : Nat), j ≤ n ∧ m ≤ 2000000 ∧ sv = .int .i64 (m : Int) ∧ iv = .int .i64 (j : Int) ∧ w = wr ∧ Hid (m = (ws.take j).flatten.length)) (fun _ _ iv _ => n - (intOf iv).toNat)
  case atStart => exact ⟨0, 0, by omega, by omega, rfl, rfl, rfl, rfl⟩
  case round =>
    obtain ⟨j, m, hj, hm, rfl, rfl, rfl, hput⟩ := hrel
    by_cases hlt : j < n
    · have hsl : (j : Nat) < ws.length := by have := HN.out; omega
      obtain ⟨g, hg1, hg, hat⟩ := HA.out (by omega)
      subst hg1
      obtain ⟨u, d1, hu2⟩ := hat j hsl
      have HP := hid (flat_take hsl)
      have hz := HZ.out (j + 1)
      rw [HP.out, List.length_append] at hz
      obtain ⟨a2, c2, rfl⟩ := hu2.form
      clear hat hu2
      generalize ws.getD j [] = y at d1 HP hz
      obtain ⟨k, hk⟩ : ∃ k, k = y.length := ⟨_, rfl⟩
      have HK := hid hk
      rw [← hk] at d1 hz
      have hz2 : m + k ≤ 2000000 := by rw [hput.out]; exact hz
      have hneg : ¬((m : Int) + (k : Int) < 0) := by omega
      clear hk hz hsl
      go_wp2_with (fail)
      go_roundw
      case rel => exact ⟨j + 1, m + k, by omega, by omega, by go_num, by go_num, trivial, hid (by rw [HP.out, List.length_append, ← hput.out, ← HK.out])⟩
      case measure => simp [intOf]; omega
    · obtain rfl : j = n := by omega
      have HG := hid (fun w => prGrow m hm w)
      clear hput
      go_wp2_with (go_at_call 74; refine (HG.out _).mono ?_; rintro e w1 ⟨v1, rfl, ho1, hb1⟩; have HO1 := hid ho1; have HB1 := hid hb1; clear ho1 hb1)
      go_loopw [6, 8, 27] (fun lv _ iv wz => ∃ (i : Nat) (x : List Int), i ≤ j ∧ x.length ≤ 2000000 ∧ iv = .int .i64 (i : Int) ∧ Hid (Own .i64 3 w.heap.size wz lv x) ∧ Hid (Below w.heap.size w wz) ∧ Hid (x = (ws.take i).flatten)) (fun _ _ iv _ => j - (intOf iv).toNat)
      case atStart => exact ⟨0, [], by omega, by simp, rfl, HO1.out, HB1.out, rfl⟩
      case round =>
        obtain ⟨i, x, hi, hxl, rfl, hown, hbel, hput⟩ := hrel
        by_cases hlt2 : i < j
        · have hsl : (i : Nat) < ws.length := by have := HN.out; omega
          obtain ⟨g, hg1, hg, hat⟩ := HA.out (by omega)
          subst hg1
          obtain ⟨u, hd1, hu2⟩ := hat i hsl
          have HU := hid hu2
          have d1 := (hbel.out.cell (p := ⟨g, i, none⟩) hg).trans hd1
          have HP := hid ((flat_take hsl).trans (by rw [← hput.out]))
          have hz := HZ.out (i + 1)
          rw [HP.out, List.length_append] at hz
          have HZX := hid hz
          rw [← List.length_append] at HZX
          clear hat hu2 hd1 hput hsl
          generalize ws.getD i [] = y at HU HP hz HZX
          go_wp2_with (at_builtin; go_loud (refine wpList_app _ rfl _ _ 22 rfl .i64 w.heap.size 3 8 Tryz.underlying22 Tryz.infoI64 _ x y rfl hown.out _ rfl (HU.out.below hbel.out) (by unfold maxLen; omega) (by omega) (by have := hbel.out.size; omega) ?_); intro v2 w2 ho2 hg2 hb2 hn2; have HO2 := hid ho2; have HB2 := hid (hbel.out.trans hb2); clear ho2 hg2 hb2 hn2)
          go_roundw
          case rel => exact ⟨i + 1, x ++ y, by omega, HZX.out, by go_num, HO2.out, HB2.out, HP.out.symm⟩
          case measure => simp [intOf]; omega
        · obtain rfl : i = j := by omega
          have HX := hid (show x = R by rw [hput.out, HR.out, HN.out, List.take_length])
          go_wp2
          go_ret
          exact ⟨_, rfl, by rw [← HX.out]; exact hown.out, hbel.out⟩

/-! ### Spaces, Prep, Equal -/
set_option maxHeartbeats 2000000 in
theorem prSpaces : PrSpacesOk := by
  intro r v s w hr hs hi hl
  have HW := hid (prWords v s w hs hl)
  have hw := wd_sum (s := s) []
  simp only [List.length_nil, Nat.zero_add] at hw
  have HC := hid (fun v w h => prConcat v (wordsA [] s) w h (by omega) (by omega))
  have HS := hid (fun v w h => prSpaced v (wordsA [] s) w h (by omega) (by omega))
  obtain ⟨Q, hQ⟩ : ∃ Q, Q = spacesP r s := ⟨_, rfl⟩
  have HQ := hid hQ
  rw [← hQ]
  unfold spacesP at HQ
  have HJ := hid (spS_join (wordsA [] s))
  generalize wordsA [] s = ws at HW HC HS HQ HJ
  obtain ⟨a1, c1, rfl⟩ := hs.form
  obtain ⟨q, hq⟩ : ∃ q, (r == 3) = q := ⟨_, rfl⟩
  cases q with
  | true =>
    have HQ2 := hid (HQ.out.trans (if_pos (by simpa using hq)))
    clear hs hi hl hw hQ HQ
    go_enter Tryz.func18, Tryz.ntmps18
    go_wp2_with (first
      | (go_at_call 43; refine HW.out.mono ?_; rintro e w1 ⟨v1, rfl, hp1, hb1⟩; have HP1 := hid (hp1.rd hb1); have HB1 := hid hb1; clear hp1 hb1)
      | (go_at_call 44; refine (HC.out _ _ HP1.out).mono ?_; rintro e w2 ⟨v2, rfl, ho2, hb2⟩; have HO2 := hid ho2; have HB2 := hid (HB1.out.trans (hb2.mono HB1.out.size)); clear ho2 hb2))
    go_ret
    exact ⟨_, rfl, by rw [HQ2.out]; exact HO2.out.sl, HB2.out⟩
  | false =>
    have HQ2 := hid (HQ.out.trans (if_neg (by simpa using hq)))
    have HE := hid (show Q = if ws = [] then [32, 32] else spS ws from by
      rw [HQ2.out]
      split
      · rfl
      · rename_i h; exact (HJ.out h).symm)
    clear hs hi hl hw hQ HQ HQ2 HJ
    go_enter Tryz.func18, Tryz.ntmps18
    go_wp2_with (first
      | (go_at_call 43; refine HW.out.mono ?_; rintro e w1 ⟨v1, rfl, hp1, hb1⟩; have HP1 := hid (hp1.rd hb1); have HB1 := hid hb1; clear hp1 hb1)
      | (go_at_call 45; refine (HS.out _ _ HP1.out).mono ?_; rintro e w2 ⟨v2, rfl, ho2, hb2⟩; have HO2 := hid ho2; have HB2 := hid (HB1.out.trans (hb2.mono HB1.out.size)); clear ho2 hb2))
    go_ret
    exact ⟨_, rfl, by rw [HE.out]; exact HO2.out, HB2.out⟩

set_option maxHeartbeats 2000000 in
theorem prPrep (HM : PrMapOk) (HN : NFormOk) : PrPrepOk := by
  intro r v s w hr hs hi hl hf
  have HR := hid (fun w => prIsRule r w)
  have HMM := hid (HM r v s w hr hs hi hl)
  obtain ⟨a1, c1, rfl⟩ := hs.form
  obtain ⟨q, hq⟩ : ∃ q, q = ruleP r := ⟨_, rfl⟩
  rw [← hq] at HR
  cases q with
  | false =>
    have HP := hid (prepP_off (s := s) hq.symm)
    clear hs hi hl hf hq HMM HM HN
    go_enter Tryz.func10, Tryz.ntmps10
    go_wp2_with (go_at_call 30; refine (HR.out _).mono ?_; rintro e w1 ⟨rfl, rfl⟩)
    go_ret2
    exact ⟨_, by rw [HP.out]; rfl, by rw [HP.out]; exact (Own.nil .i64 3 0 _).sl, Below.refl _ _⟩
  | true =>
    have HNO := hid (fun h => prepP_no (rule := r) (s := s) h)
    have HYES := hid (fun h => prepP_yes (rule := r) (s := s) hq.symm h)
    have HFF := hid (fun v w h => HN true v (mapP r s) w h hf)
    have hfi := form_inI (k := true) hf.1
    have hfl : (formS true (mapP r s)).length ≤ 1000000 := Nat.le_trans (form_len true _) hf.2.2
    have HA := hid (fun v w h => prAllowed v (formS true (mapP r s)) w h hfi hfl)
    have HSP := hid (fun v w h => prSpaces r v (formS true (mapP r s)) w hr h hfi hfl)
    generalize formS true (mapP r s) = F at HNO HYES HFF HA HSP
    generalize mapP r s = M at HMM HFF
    generalize alwP F = b at HA HNO HYES
    generalize prepP r s = P at HNO HYES ⊢
    clear hs hi hl hf hq hfi hfl HM HN
    cases b with
    | false =>
      have HP := hid (HNO.out rfl)
      go_enter Tryz.func10, Tryz.ntmps10
      go_wp2_with (first
        | (go_at_call 30; refine (HR.out _).mono ?_; rintro e w1 ⟨rfl, rfl⟩)
        | (go_at_call 14; refine HMM.out.mono ?_; rintro e w2 ⟨v2, rfl, ho2, hb2⟩; have HO2 := hid ho2; have HB2 := hid hb2; clear ho2 hb2)
        | (go_at_call 21; refine (HFF.out _ _ HO2.out).mono ?_; rintro e w3 ⟨v3, rfl, ho3, hb3⟩; have HO3 := hid ho3.sl; have HB3 := hid (HB2.out.trans (hb3.mono HB2.out.size)); clear ho3 hb3)
        | (go_at_call 16; refine (HA.out _ _ HO3.out).mono ?_; rintro e w4 ⟨rfl, hb4⟩; have HB4 := hid (HB3.out.trans (hb4.mono HB3.out.size)); clear hb4))
      go_ret2
      exact ⟨_, by rw [HP.out]; rfl, by rw [HP.out]; exact (Own.nil .i64 3 0 _).sl, HB4.out⟩
    | true =>
      have HP := hid (HYES.out rfl)
      go_enter Tryz.func10, Tryz.ntmps10
      go_wp2_with (first
        | (go_at_call 30; refine (HR.out _).mono ?_; rintro e w1 ⟨rfl, rfl⟩)
        | (go_at_call 14; refine HMM.out.mono ?_; rintro e w2 ⟨v2, rfl, ho2, hb2⟩; have HO2 := hid ho2; have HB2 := hid hb2; clear ho2 hb2)
        | (go_at_call 21; refine (HFF.out _ _ HO2.out).mono ?_; rintro e w3 ⟨v3, rfl, ho3, hb3⟩; have HO3 := hid ho3.sl; have HB3 := hid (HB2.out.trans (hb3.mono HB2.out.size)); clear ho3 hb3)
        | (go_at_call 16; refine (HA.out _ _ HO3.out).mono ?_; rintro e w4 ⟨rfl, hb4⟩; have HO4 := hid (HO3.out.below hb4); have HB4 := hid (HB3.out.trans (hb4.mono HB3.out.size)); clear hb4)
        | (go_at_call 18; refine (HSP.out _ _ HO4.out).mono ?_; rintro e w5 ⟨v5, rfl, ho5, hb5⟩; have HO5 := hid ho5; have HB5 := hid (HB4.out.trans (hb5.mono HB4.out.size)); clear ho5 hb5))
      go_ret2
      exact ⟨_, by rw [HP.out]; rfl, by rw [HP.out]; exact HO5.out, HB5.out⟩

set_option maxHeartbeats 2000000 in
theorem prEqual (HP : PrPrepOk) : PrEqualOk := by
  intro r va vb a b w hr ha hb hai hbi hal hbl hfa hfb
  have HA := hid (HP r va a w hr ha hai hal hfa)
  have HBB := hid (fun w h => HP r vb b w hr h hbi hbl hfb)
  have HSB := hid hb
  obtain ⟨a1, c1, rfl⟩ := ha.form
  obtain ⟨a2, c2, rfl⟩ := hb.form
  unfold sameP
  generalize prepP r a = P at HA ⊢
  generalize prepP r b = Q at HBB ⊢
  clear ha hb hai hbi hal hbl hfa hfb HP
  cases P with
  | none =>
    go_enter Tryz.func12, Tryz.ntmps12
    go_wp2_with (go_at_call 10; refine HA.out.mono ?_; rintro e w1 ⟨v1, rfl, -, hb1⟩; have HB1 := hid hb1; clear hb1)
    go_ret2
    exact ⟨rfl, HB1.out⟩
  | some x =>
    cases Q with
    | none =>
      go_enter Tryz.func12, Tryz.ntmps12
      go_wp2_with (first
        | (have _u := HB1; clear _u; go_at_call 10; refine (HBB.out _ (HSB.out.below HB1.out)).mono ?_; rintro e w2 ⟨v2, rfl, -, hb2⟩; have HB2 := hid (HB1.out.trans (hb2.mono HB1.out.size)); clear hb2)
        | (go_at_call 10; refine HA.out.mono ?_; rintro e w1 ⟨v1, rfl, -, hb1⟩; have HB1 := hid hb1; clear hb1))
      go_ret2
      exact ⟨rfl, HB2.out⟩
    | some y =>
      have HE := hid (fun v1 v2 w h1 h2 => slicesEqual v1 v2 x y w h1 h2)
      go_enter Tryz.func12, Tryz.ntmps12
      go_wp2_with (first
        | (have _u := HB1; clear _u; go_at_call 10; refine (HBB.out _ (HSB.out.below HB1.out)).mono ?_; rintro e w2 ⟨v2, rfl, ho2, hb2⟩; have HX2 := hid (HO1.out.below hb2); have HO2 := hid ho2; have HB2 := hid (HB1.out.trans (hb2.mono HB1.out.size)); clear hb2 ho2)
        | (go_at_call 10; refine HA.out.mono ?_; rintro e w1 ⟨v1, rfl, ho1, hb1⟩; have HO1 := hid ho1; have HB1 := hid hb1; clear hb1 ho1)
        | (go_at_call 33; refine (HE.out _ _ _ HX2.out HO2.out).mono ?_; rintro e w3 ⟨rfl, hb3⟩; have HB3 := hid (HB2.out.trans (hb3.mono HB2.out.size)); clear hb3))
      go_ret2
      exact ⟨rfl, HB3.out⟩
end Go.Proofs.YtidjjaginindoaaGreat

/-! Prep21e -/
namespace Go.Proofs.YtidjjaginindoaaGreat
open Go.RowKit
theorem prMapIs : PrMapOk := prMap allFold
theorem prPrepIs : PrPrepOk := prPrep prMapIs normForm
theorem prEqualIs : PrEqualOk := prEqual prPrepIs
end Go.Proofs.YtidjjaginindoaaGreat
