/- Several texts in one: TelPut, StrLen, Ref18a, Ref18b. -/
import Derived.Test.YtildhebaikeknaaGreatPk23
import Derived.Test.YtildhebaikeknaaGreatPk18
import Derived.Test.YtildhebaikeknaaGreatPk22
import Derived.Test.YtildhebaikeknaaGreatPk31
import Derived.Test.YtildhebaikeknaaGreatPk29
import Derived.Test.YtildhebaikeknaaGreatPk3
import Derived.Deep.RegionHeld3
import Derived.Deep.AppendLies
/-! TelPut -/
namespace Go.Proofs.YtildhebaikeknaaGreat
set_option linter.unusedVariables false

theorem set_inI {s : Int} (h : s ∈ tabSets ++ [103]) : inI s = true := by
  have : ∀ x ∈ tabSets ++ [103], inI x = true := by decide
  exact this s h
/-- what was written of so many scalars, ahead of what is written of the others -/
def aheadP (j : Nat) (x : List Int) : List Int ⊕ Nat → List Int ⊕ Nat
  | .inl l => .inl (x ++ l)
  | .inr i => .inr (j + i)
theorem aheadP_nil (y : List Int ⊕ Nat) : aheadP 0 [] y = y := by cases y <;> simp [aheadP]
theorem aheadP_some {g c h : Int} {bs r x : List Int} {j : Nat} (ho : oneP g c = some (bs, h)) : aheadP j x (putF g (c :: r)) = aheadP (j + 1) (x ++ bs) (putF h r) := by
  rw [putF, ho]
  simp only
  cases putF h r with
  | inl l => simp [aheadP]
  | inr i => simp only [aheadP]; congr 1; omega
theorem aheadP_none {g c : Int} {r x : List Int} {j : Nat} (ho : oneP g c = none) : aheadP j x (putF g (c :: r)) = .inr j := by
  rw [putF, ho]
  simp [aheadP]
theorem one_more18 {g c h : Int} {bs : List Int} (hg : inI g = true) (ho : oneP g c = some (bs, h)) : 0 < bs.length ∧ inI h = true := by
  have hb : ∀ p, 0 < (bytP p).length := fun p => by unfold bytP; split <;> simp
  unfold oneP at ho
  split at ho
  · cases ho; exact ⟨by simp, hg⟩
  · split at ho
    · cases ho; exact ⟨hb _, hg⟩
    · split at ho
      · cases ho; exact ⟨by simp, hg⟩
      · split at ho
        · split at ho
          · cases ho; exact ⟨by simp, hg⟩
          · cases ho; exact ⟨by simp, by decide⟩
        · split at ho
          · rename_i hd
            obtain ⟨hm, -⟩ := fndI_mem (p := fun s => (findS16 s c).2) (l := tabSets) (eta2 hd : fndI (fun s => (findS16 s c).2) tabSets = ((fndI (fun s => (findS16 s c).2) tabSets).1, true))
            generalize fndI (fun s => (findS16 s c).2) tabSets = D at ho hm
            injection ho with ho
            simp only [Prod.mk.injEq] at ho
            obtain ⟨rfl, rfl⟩ := ho
            exact ⟨by rw [List.length_append]; have := hb (findS16 D.1 c).1; omega, set_inI (List.mem_append_left _ hm)⟩
          · cases ho
end Go.Proofs.YtildhebaikeknaaGreat

/-! StrLen -/
namespace Go.Proofs.YtildhebaikeknaaGreat
open Go.RowKit

theorem isK_of {k : Int} {s : List Int} (h : (sput k s).2.2 = 0) : 0 ≤ k ∧ k ≤ 30 := by
  cases hk : isK k with
  | false => rw [sput_not s hk] at h; exact absurd h (by simp)
  | true =>
    unfold isK narK at hk
    simp only [Bool.or_eq_true, decide_eq_true_iff] at hk
    omega
theorem sput_len {k : Int} {s : List Int} (hl : s.length ≤ 100000) : (sput k s).1.length ≤ 1000000 := by
  have none : ∀ (e : Int) (i : Nat), (res3 e (.inr i)).1.length ≤ 1000000 := fun e i => by simp [res3, outL]
  unfold sput
  by_cases h1 : k = 12
  · rw [if_pos h1]
    cases hp : putU s with
    | inl x => have := (put_len hp).2; show x.length ≤ _; omega
    | inr i => exact none _ _
  rw [if_neg h1]
  by_cases h2 : k = 20
  · rw [if_pos h2]
    cases hp : put18 s with
    | inl x => have := put_len18 hp; show x.length ≤ _; omega
    | inr i => exact none _ _
  rw [if_neg h2]
  by_cases h3 : k = 30
  · rw [if_pos h3]
    unfold wput
    rw [if_pos rfl]
    cases hp : wputB false s with
    | inl x => have := (wput_get hp).2.1; unfold wk at this; simp at this; show x.length ≤ _; omega
    | inr i => exact none _ _
  rw [if_neg h3]
  by_cases h4 : k = 28
  · rw [if_pos h4]
    unfold wput
    rw [if_neg (by decide), if_pos rfl]
    cases hp : wputB true s with
    | inl x => have := (wput_get hp).2.1; unfold wk at this; simp at this; show x.length ≤ _; omega
    | inr i => exact none _ _
  rw [if_neg h4]
  unfold nput
  split
  · cases hp : nchk k s with
    | inl x => have := (nchk_same hp).1; show x.length ≤ _; rw [this]; omega
    | inr i => exact none _ _
  · simp
theorem u8_nil : U8 [] := fun x hx => by cases hx
theorem sput_u8 (k : Int) (s : List Int) : U8 (sput k s).1 := by
  unfold sput
  by_cases h1 : k = 12
  · rw [if_pos h1]
    cases hp : putU s with
    | inl x => exact put_u8 hp
    | inr i => exact u8_nil
  rw [if_neg h1]
  by_cases h2 : k = 20
  · rw [if_pos h2]
    cases hp : put18 s with
    | inl x => exact put_bytes18 hp
    | inr i => exact u8_nil
  rw [if_neg h2]
  by_cases h3 : k = 30
  · rw [if_pos h3]
    unfold wput
    rw [if_pos rfl]
    cases hp : wputB false s with
    | inl x => exact (wput_get hp).2.2.1
    | inr i => exact u8_nil
  rw [if_neg h3]
  by_cases h4 : k = 28
  · rw [if_pos h4]
    unfold wput
    rw [if_neg (by decide), if_pos rfl]
    cases hp : wputB true s with
    | inl x => exact (wput_get hp).2.2.1
    | inr i => exact u8_nil
  rw [if_neg h4]
  unfold nput
  split
  · cases hp : nchk k s with
    | inl x => have h := nchk_u8 hp; rw [← (nchk_same hp).1] at h; exact h
    | inr i => exact u8_nil
  · exact u8_nil
/-- a string's DER value: its content, or what is wrong with it -/
def unK (k : Int) (b : List Int) : List Int × Int := if (oneT b).2.2.2 ≠ 0 then ([], (oneT b).2.2.2) else if (oneT b).1.cls ≠ 0 ∨ (oneT b).1.tag ≠ k then ([], 3) else if (oneT b).1.cons = true then ([], 7) else if (oneT b).2.2.1 ≠ [] then ([], 5) else ((oneT b).2.1, 0)
/-- its scalars -/
def decK (k : Int) (b : List Int) : List Int × Int × Int := if isK k = true then (if (unK k b).2 = 0 then sget k (unK k b).1 else ([], 0, (unK k b).2)) else ([], 0, 18)
def trnK (k l : Int) (b : List Int) : List Int × Int × Int := if (decK k b).2.2 = 0 then encS l (decK k b).1 else ([], (decK k b).2.1, (decK k b).2.2)
theorem one_parts (b : List Int) (hu : U8 b) : (oneT b).2.1.length ≤ b.length ∧ U8 (oneT b).2.1 := by
  unfold oneT
  split
  · exact ⟨Nat.zero_le _, u8_nil⟩
  split
  · exact ⟨Nat.zero_le _, u8_nil⟩
  · refine ⟨?_, fun x hx => hu x (List.mem_of_mem_drop (List.mem_of_mem_take hx))⟩
    rw [List.length_take, List.length_drop]
    omega
theorem wget_bad {f : Bool} {b s : List Int} {a e : Int} (h : wgetB f b = (s, a, e)) (he : e ≠ 0) : (s, a, e) = (([] : List Int), a, e) := by
  unfold wgetB at h
  split at h
  · cases hg : getN (wk f) wdec (b.length / wk f) b with
    | inl x => rw [hg] at h; simp [res3, outL, outE] at h; exact absurd h.2.2.symm he
    | inr i => rw [hg] at h; simp [res3, outL] at h; rw [h.1]
  · simp at h
    rw [h.1]
theorem unK_len (k : Int) {b : List Int} (hu : U8 b) : (unK k b).1.length ≤ b.length ∧ U8 (unK k b).1 := by
  have h := one_parts b hu
  unfold unK
  split
  · exact ⟨Nat.zero_le _, u8_nil⟩
  split
  · exact ⟨Nat.zero_le _, u8_nil⟩
  split
  · exact ⟨Nat.zero_le _, u8_nil⟩
  split
  · exact ⟨Nat.zero_le _, u8_nil⟩
  · exact h
theorem inI_scalar {c : Int} (h : scalarB c = true) : inI c = true := by
  have := scalar_parts h
  unfold inI
  simp
  omega
theorem sget_len (k : Int) {b : List Int} (hu : U8 b) : (sget k b).1.length ≤ b.length ∧ (sget k b).1.all inI = true := by
  unfold sget
  by_cases h1 : k = 12
  · rw [if_pos h1]
    cases hp : getU b with
    | inl x => exact ⟨(get_len hu hp).1, List.all_eq_true.2 fun c hc => inI_scalar (get_scalars hu hp c hc)⟩
    | inr i => exact ⟨Nat.zero_le _, rfl⟩
  rw [if_neg h1]
  by_cases h2 : k = 20
  · rw [if_pos h2]
    cases hp : read18 b with
    | inl x => exact ⟨read_len18 hp, read_in18 hu hp⟩
    | inr i => exact ⟨Nat.zero_le _, rfl⟩
  rw [if_neg h2]
  have wide : ∀ f, (wgetB f b).1.length ≤ b.length ∧ (wgetB f b).1.all inI = true := fun f => by
    obtain ⟨R, hR⟩ : ∃ R, R = wgetB f b := ⟨_, rfl⟩
    obtain ⟨s, a, e⟩ := R
    rw [← hR]
    by_cases he : e = 0
    · subst he
      have h := wget_put hu hR.symm
      have h2 := wput_get h.1
      have h3 : 1 ≤ wk f := by unfold wk; split <;> omega
      refine ⟨?_, List.all_eq_true.2 fun c hc => inI_scalar (wok_parts (h2.2.2.2 c hc)).1⟩
      have := Nat.le_mul_of_pos_right s.length h3
      dsimp only
      omega
    · rw [wget_bad hR.symm he]
      exact ⟨Nat.zero_le _, rfl⟩
  by_cases h3 : k = 30
  · rw [if_pos h3]
    unfold wget
    rw [if_pos rfl]
    exact wide false
  rw [if_neg h3]
  by_cases h4 : k = 28
  · rw [if_pos h4]
    unfold wget
    rw [if_neg (by decide), if_pos rfl]
    exact wide true
  rw [if_neg h4]
  unfold nget
  split
  · cases hp : nchk k b with
    | inl x =>
      have h := nchk_same hp
      refine ⟨by show x.length ≤ _; rw [h.1]; omega, List.all_eq_true.2 fun c hc => ?_⟩
      have := narB_u8 (h.2 c (by rw [← h.1]; exact hc))
      unfold inI
      simp
      omega
    | inr i => exact ⟨Nat.zero_le _, rfl⟩
  · exact ⟨Nat.zero_le _, rfl⟩
theorem decK_len (k : Int) {b : List Int} (hu : U8 b) : (decK k b).1.length ≤ b.length ∧ (decK k b).1.all inI = true := by
  have h := unK_len k hu
  unfold decK
  split
  · split
    · have h2 := sget_len k h.2
      exact ⟨Nat.le_trans h2.1 h.1, h2.2⟩
    · exact ⟨Nat.zero_le _, rfl⟩
  · exact ⟨Nat.zero_le _, rfl⟩
end Go.Proofs.YtildhebaikeknaaGreat

/-! Ref18a -/
namespace Go.Proofs.YtildhebaikeknaaGreat
open Go.RowKit

set_option maxHeartbeats 2000000 in
theorem refBytes18 (p : Nat) (w : World) (hp : p ≤ 65535) :
    Calls Tryz.prog 73 #[.int .i64 (p : Int)] w fun e w' => ∃ x, e = .returned x ∧ Own .u8 5 w.heap.size w' x (bytP (p : Int)) ∧ Below w.heap.size w w' := by
  by_cases h : 255 < p
  · have HE := hid (show bytP (p : Int) = [(p : Int) / 256, (p : Int) % 256] by unfold bytP; rw [if_pos (by omega)])
    have w1 : IntKind.u8.wrap ((p : Int) / 256) = (p : Int) / 256 := by simp only [IntKind.wrap, IntKind.bits, IntKind.signed]; simp; omega
    have hg : (255 : Int) < (p : Int) := by omega
    go_enter Tryz.func73, Tryz.ntmps73
    go_wp2_with (fail)
    go_ret
    exact ⟨_, rfl, by rw [HE.out]; exact lit_own rfl (Nat.le_refl _) rfl rfl (by simp), by (repeat (first | exact Below.refl _ _ | exact below_drewN _ | refine Below.drew ?_ | refine Below.alloc ?_ (by simp) _ | refine Below.setCell ?_ (by simp) _ | refine below_drewN' ?_ _))⟩
  · have HE := hid (show bytP (p : Int) = [(p : Int)] by unfold bytP; rw [if_neg (by omega)])
    have w1 : (p : Int) % 256 = (p : Int) := by omega
    have hg : ¬ (255 : Int) < (p : Int) := by omega
    go_enter Tryz.func73, Tryz.ntmps73
    go_wp2_with (fail)
    go_ret
    exact ⟨_, rfl, by rw [HE.out]; exact lit_own rfl (Nat.le_refl _) rfl rfl (by simp), by (repeat (first | exact Below.refl _ _ | exact below_drewN _ | refine Below.drew ?_ | refine Below.alloc ?_ (by simp) _ | refine Below.setCell ?_ (by simp) _ | refine below_drewN' ?_ _))⟩
end Go.Proofs.YtildhebaikeknaaGreat

/-! Ref18b -/
namespace Go.Proofs.YtildhebaikeknaaGreat
open Go.RowKit
set_option linter.unusedVariables false

def oneG (g c : Int) : Int := match oneP g c with | some y => y.2 | none => g
def oneB (g c : Int) : List Int := match oneP g c with | some y => y.1 | none => []
/-- append(dst, src...) as one operation of a region that draws -/
theorem step_app18 {P : Program} (w : World) {ops : Array Oper} {o : Oper} {a : Act} {K : Act → World → Prop} {Q : Exit → Act → World → Prop} {E : Prop} (hgd : o.guard = none) (s x : Operand) (t : TypeId)
    (ho : o.op = .call { callee := .builtin .append, args := #[s, x], argTypes := #[t, t] }) (k : IntKind)
    (base e : Nat) (bytes : Nat) (ht : P.underlying t = some (.slice e)) (hinfo : (P.info? e).map (fun i => (i.zero, i.size, i.bytes)) = some (some (.int k 0), 1, bytes))
    (v : Value) (xs ys : List Int) (hs : a.eval s = v) (hown : Own k e base w v xs) (u : Value) (hx : a.eval x = u) (hu : Sl k w u ys) (hy : 0 < ys.length)
    (h63 : xs.length + ys.length ≤ maxLen) (hbytes : (xs.length + ys.length) * bytes ≤ 140737488355328) (hbase : base ≤ w.heap.size)
    (h : ∀ g cap w', Own k e base w' (.slice (some ⟨g, 0, none⟩) (xs.length + ys.length) cap) (xs ++ ys) → w.grownBy w' v.ownBlock → Below base w w' → K (a.put o.dst (.slice (some ⟨g, 0, none⟩) (xs.length + ys.length) cap)) w') :
    if Region.wanted o (yielded ops a.tmps) = true then Oper.wp P o a w K Q else E := by
  obtain ⟨i, hi, hz0, hz1, hz2⟩ := info_parts hinfo
  obtain ⟨ao, cap, rfl, hl, hm, hu⟩ := hu
  rcases hu with rfl | ⟨b, off, rfl, hbb, hc⟩
  · omega
  · refine step_append_lies w hgd s x t ho base e i (.int k 0) 1 bytes ht hi hz0 hz1 hz2 rfl (by decide) v xs.length (xs.map (Value.int k)) hs hown ⟨b, off, none⟩ ys.length cap (ys.map (Value.int k)) hx (by simp) ?_ (ints_oneCell k ys) hy h63 hbytes hbase w.heap.size rfl ?_
    · intro j u hj
      rw [List.getElem?_map] at hj
      have hadd : (⟨b, off, none⟩ : Addr).add j = ⟨b, off + j, none⟩ := by unfold Addr.add; split <;> simp_all
      rcases Nat.lt_or_ge j ys.length with hjl | hjl
      · rw [hadd, hc j hjl, ← hj, List.getD_eq_getElem?_getD, List.getElem?_eq_getElem hjl]; rfl
      · rw [List.getElem?_eq_none hjl] at hj; cases hj
    · intro g cap' w' hown' hg hgg hlt
      exact h g cap' w' (by simpa [Own] using hown') hg ((Below.refl base w).grown hg hbase (fun k hk => (World.ownsRow.lt hown k hk).1))
theorem u8_same18 {x : Int} (h0 : 0 ≤ x) (h1 : x ≤ 255) : IntKind.u8.wrap x = x := by simp only [IntKind.wrap, IntKind.bits, IntKind.signed]; simp; omega
/-- bytes, at a row of the table -/
theorem refBytesRow {r : Rg} (hr : r ∈ tabCodes) (w : World) : Calls Tryz.prog 73 #[.int .i64 r.t] w fun e w' => ∃ x, e = .returned x ∧ Own .u8 5 w.heap.size w' x (bytP r.t) ∧ Below w.heap.size w w' := by
  obtain ⟨-, -, -, h1, h2, h0, -⟩ := code_row hr
  obtain ⟨n, hn⟩ : ∃ n : Nat, r.t = n := ⟨r.t.toNat, by omega⟩
  rw [hn]
  exact refBytes18 n w (by omega)
set_option maxHeartbeats 2000000 in
set_option maxRecDepth 100000 in
theorem refOne1 (S : Nat) (c g : Int) (w : World) (h : SetsAt S w) (h1 : ctlB c = true) : Calls Tryz.prog 53 #[.pointer (some ⟨S, 0, none⟩), .int .i64 c, .int .i64 g] w fun e w' => ∃ x, e = .returned (.tuple #[x, .int .i64 g, .bool true]) ∧ Own .u8 5 w.heap.size w' x ([c]) ∧ Below w.heap.size w w' := by
  have hc : c = 32 ∨ c = 8 ∨ c = 10 ∨ c = 12 ∨ c = 13 := by
    unfold ctlB at h1
    simpa only [Bool.or_eq_true, beq_iff_eq] using h1
  clear h1 h
  rcases hc with rfl | rfl | rfl | rfl | rfl
  · go_enter Tryz.func53, Tryz.ntmps53
    go_wp2_with (fail)
    go_ret3
    exact ⟨_, rfl, lit_own rfl (Nat.le_refl _) rfl rfl (by simp), by (repeat (first | exact Below.refl _ _ | exact below_drewN _ | refine Below.drew ?_ | refine Below.alloc ?_ (by simp) _ | refine Below.setCell ?_ (by simp) _ | refine below_drewN' ?_ _))⟩
  · go_enter Tryz.func53, Tryz.ntmps53
    go_wp2_with (fail)
    go_ret3
    exact ⟨_, rfl, lit_own rfl (Nat.le_refl _) rfl rfl (by simp), by (repeat (first | exact Below.refl _ _ | exact below_drewN _ | refine Below.drew ?_ | refine Below.alloc ?_ (by simp) _ | refine Below.setCell ?_ (by simp) _ | refine below_drewN' ?_ _))⟩
  · go_enter Tryz.func53, Tryz.ntmps53
    go_wp2_with (fail)
    go_ret3
    exact ⟨_, rfl, lit_own rfl (Nat.le_refl _) rfl rfl (by simp), by (repeat (first | exact Below.refl _ _ | exact below_drewN _ | refine Below.drew ?_ | refine Below.alloc ?_ (by simp) _ | refine Below.setCell ?_ (by simp) _ | refine below_drewN' ?_ _))⟩
  · go_enter Tryz.func53, Tryz.ntmps53
    go_wp2_with (fail)
    go_ret3
    exact ⟨_, rfl, lit_own rfl (Nat.le_refl _) rfl rfl (by simp), by (repeat (first | exact Below.refl _ _ | exact below_drewN _ | refine Below.drew ?_ | refine Below.alloc ?_ (by simp) _ | refine Below.setCell ?_ (by simp) _ | refine below_drewN' ?_ _))⟩
  · go_enter Tryz.func53, Tryz.ntmps53
    go_wp2_with (fail)
    go_ret3
    exact ⟨_, rfl, lit_own rfl (Nat.le_refl _) rfl rfl (by simp), by (repeat (first | exact Below.refl _ _ | exact below_drewN _ | refine Below.drew ?_ | refine Below.alloc ?_ (by simp) _ | refine Below.setCell ?_ (by simp) _ | refine below_drewN' ?_ _))⟩
set_option maxHeartbeats 2000000 in
set_option maxRecDepth 100000 in
theorem refOne2 (S : Nat) (c g p : Int) (w : World) (h : SetsAt S w) (h1 : ctlB c = false) (h2 : findS16 g c = (p, true)) : Calls Tryz.prog 53 #[.pointer (some ⟨S, 0, none⟩), .int .i64 c, .int .i64 g] w fun e w' => ∃ x, e = .returned (.tuple #[x, .int .i64 g, .bool true]) ∧ Own .u8 5 w.heap.size w' x (bytP p) ∧ Below w.heap.size w w' := by
  obtain ⟨b8, b10, b12, b13, b32⟩ : (c == 8) = false ∧ (c == 10) = false ∧ (c == 12) = false ∧ (c == 13) = false ∧ (c == 32) = false := by
    unfold ctlB at h1
    simp only [Bool.or_eq_false_iff] at h1
    exact ⟨h1.2.1, h1.2.2.1, h1.2.2.2.1, h1.2.2.2.2, h1.1⟩
  have HS := hid h
  have HF1 := hid (fun w h => refFind16 S g c w h)
  rw [h2] at HF1
  obtain ⟨r, hr, hf, hv, ht⟩ := find_row h2
  have HC := hid (fun w => refBytesRow hr w)
  rw [ht] at HC
  generalize bytP p = Y at HC ⊢
  clear h1 h2 hr hf hv ht h
  go_enter Tryz.func53, Tryz.ntmps53
  go_wp2_with (first
    | (go_at_call 73; refine (HC.out _).mono ?_; rintro e w2 ⟨v2, rfl, ho2, hb2⟩; have HO2 := hid ho2; have HB2 := hid hb2; clear ho2 hb2)
    | (go_at_call 72; refine (HF1.out _ HS.out).mono ?_; rintro e w1 ⟨rfl, rfl⟩))
  go_ret3
  exact ⟨_, rfl, HO2.out, HB2.out⟩
set_option maxHeartbeats 2000000 in
set_option maxRecDepth 100000 in
theorem refOne3 (S : Nat) (c g q p : Int) (w : World) (h : SetsAt S w) (h1 : ctlB c = false) (h2 : findS16 g c = (q, false)) (h3 : findS16 103 c = (p, true)) : Calls Tryz.prog 53 #[.pointer (some ⟨S, 0, none⟩), .int .i64 c, .int .i64 g] w fun e w' => ∃ x, e = .returned (.tuple #[x, .int .i64 g, .bool true]) ∧ Own .u8 5 w.heap.size w' x ([p + 128]) ∧ Below w.heap.size w w' := by
  obtain ⟨b8, b10, b12, b13, b32⟩ : (c == 8) = false ∧ (c == 10) = false ∧ (c == 12) = false ∧ (c == 13) = false ∧ (c == 32) = false := by
    unfold ctlB at h1
    simp only [Bool.or_eq_false_iff] at h1
    exact ⟨h1.2.1, h1.2.2.1, h1.2.2.2.1, h1.2.2.2.2, h1.1⟩
  have HS := hid h
  have HF1 := hid (fun w h => refFind16 S g c w h)
  rw [h2] at HF1
  have HF2 := hid (fun w h => refFind16 S 103 c w h)
  rw [h3] at HF2
  have hp : 0 ≤ p ∧ p ≤ 127 := by
    obtain ⟨r, hr, hf, hv, ht⟩ := find_row h3
    obtain ⟨-, -, h87, hm, hd, h0, -⟩ := code_row hr
    have h255 : r.t ≤ 255 := by
      have : decide (255 < r.t) = false := by rw [← h87, hf]; rfl
      have := of_decide_eq_false this
      omega
    omega
  obtain ⟨p0, p1⟩ := hp
  have hu : IntKind.u8.wrap (p + 128) = p + 128 := u8_same18 (by omega) (by omega)
  have HK := hid (Nat.le_refl 0)
  clear h1 h2 h3 h
  go_enter Tryz.func53, Tryz.ntmps53
  go_wp2_with (first
    | (have _u := HK; clear _u; go_at_call 72; refine (HF1.out _ HS.out).mono ?_; rintro e w1 ⟨rfl, rfl⟩; clear HK)
    | (go_at_call 72; refine (HF2.out _ HS.out).mono ?_; rintro e w2 ⟨rfl, rfl⟩))
  go_ret3
  exact ⟨_, rfl, lit_own rfl (Nat.le_refl _) rfl rfl (by simp), by (repeat (first | exact Below.refl _ _ | exact below_drewN _ | refine Below.drew ?_ | refine Below.alloc ?_ (by simp) _ | refine Below.setCell ?_ (by simp) _ | refine below_drewN' ?_ _))⟩
set_option maxHeartbeats 4000000 in
set_option maxRecDepth 100000 in
theorem refOne4 (S : Nat) (c g q p q2 le : Int) (w : World) (h : SetsAt S w) (h1 : ctlB c = false) (h2 : findS16 g c = (q, false)) (h3 : findS16 103 c = (q2, false)) (h4 : accS c = (p, le, true)) : Calls Tryz.prog 53 #[.pointer (some ⟨S, 0, none⟩), .int .i64 c, .int .i64 g] w fun e w' => ∃ x, e = .returned (.tuple #[x, .int .i64 (if le = 32 ∨ g = 102 ∨ g = 6 then g else 102), .bool true]) ∧ Own .u8 5 w.heap.size w' x (if le = 32 ∨ g = 102 ∨ g = 6 then [p + 128, le] else escP 0 102 ++ [p + 128, le]) ∧ Below w.heap.size w w' := by
  obtain ⟨b8, b10, b12, b13, b32⟩ : (c == 8) = false ∧ (c == 10) = false ∧ (c == 12) = false ∧ (c == 13) = false ∧ (c == 32) = false := by
    unfold ctlB at h1
    simp only [Bool.or_eq_false_iff] at h1
    exact ⟨h1.2.1, h1.2.2.1, h1.2.2.2.1, h1.2.2.2.2, h1.1⟩
  have HS := hid h
  have HF1 := hid (fun w h => refFind16 S g c w h)
  rw [h2] at HF1
  have HF2 := hid (fun w h => refFind16 S 103 c w h)
  rw [h3] at HF2
  have HA := hid (fun w h => refAccent16 S c w h)
  rw [h4] at HA
  obtain ⟨n, lone, hmk, -, -, hcase⟩ := acc_facts h4
  obtain ⟨r, hr, hrf, -, -⟩ := mark_row hmk
  have hpl := List.all_eq_true.1 acc_place r hr
  rw [decide_eq_true_iff, hrf] at hpl
  have hle : 0 ≤ le ∧ le ≤ 255 := by
    rcases hcase with ⟨h, -⟩ | ⟨-, -, hl, -⟩
    · omega
    · unfold letB at hl
      rw [decide_eq_true_iff] at hl
      omega
  have hu1 : IntKind.u8.wrap (p + 128) = p + 128 := u8_same18 (by omega) (by omega)
  have hu2 : IntKind.u8.wrap le = le := u8_same18 hle.1 hle.2
  have p0 : 0 ≤ p := by omega
  have p1 : p ≤ 127 := by omega
  have l0 := hle.1
  have l1 := hle.2
  have HD := hid (fun w => refEsc 0 102 w (by decide) (by decide) (by decide))
  have HK := hid (Nat.le_refl 0)
  have HK2 := hid (Nat.le_refl 0)
  clear h1 h2 h3 h4 hmk hcase hr hrf hpl hle h
  by_cases h1 : le = 32 ∨ g = 102 ∨ g = 6
  · rw [if_pos h1, if_pos h1]
    have hb : ∀ {x y z : Bool}, (x = true ∨ y = true ∨ z = true) → (x = true) ∨ (x = false ∧ y = true) ∨ (x = false ∧ y = false ∧ z = true) := by
      intro x y z; cases x <;> cases y <;> cases z <;> simp
    have h2 : (le == 32) = true ∨ (g == 102) = true ∨ (g == 6) = true := by simpa using h1
    clear h1 HD
    rcases hb h2 with e1 | ⟨e1, e2⟩ | ⟨e1, e2, e3⟩
    · clear h2 hb
      go_enter Tryz.func53, Tryz.ntmps53
      go_wp2_with (first | (have _u := HK; clear _u; go_at_call 72; refine (HF1.out _ HS.out).mono ?_; rintro e w1 ⟨rfl, rfl⟩; clear HK) | (have _u := HK2; clear _u; go_at_call 72; refine (HF2.out _ HS.out).mono ?_; rintro e w2 ⟨rfl, rfl⟩; clear HK2) | (go_at_call 74; refine (HA.out _ HS.out).mono ?_; rintro e w3 ⟨rfl, hb3⟩; have HB3 := hid hb3; clear hb3))
      go_ret3
      exact ⟨_, rfl, lit_own rfl HB3.out.size rfl rfl (by simp), HB3.out.alloc HB3.out.size _⟩
    · clear h2 hb
      go_enter Tryz.func53, Tryz.ntmps53
      go_wp2_with (first | (have _u := HK; clear _u; go_at_call 72; refine (HF1.out _ HS.out).mono ?_; rintro e w1 ⟨rfl, rfl⟩; clear HK) | (have _u := HK2; clear _u; go_at_call 72; refine (HF2.out _ HS.out).mono ?_; rintro e w2 ⟨rfl, rfl⟩; clear HK2) | (go_at_call 74; refine (HA.out _ HS.out).mono ?_; rintro e w3 ⟨rfl, hb3⟩; have HB3 := hid hb3; clear hb3))
      go_ret3
      exact ⟨_, rfl, lit_own rfl HB3.out.size rfl rfl (by simp), HB3.out.alloc HB3.out.size _⟩
    · clear h2 hb
      go_enter Tryz.func53, Tryz.ntmps53
      go_wp2_with (first | (have _u := HK; clear _u; go_at_call 72; refine (HF1.out _ HS.out).mono ?_; rintro e w1 ⟨rfl, rfl⟩; clear HK) | (have _u := HK2; clear _u; go_at_call 72; refine (HF2.out _ HS.out).mono ?_; rintro e w2 ⟨rfl, rfl⟩; clear HK2) | (go_at_call 74; refine (HA.out _ HS.out).mono ?_; rintro e w3 ⟨rfl, hb3⟩; have HB3 := hid hb3; clear hb3))
      go_ret3
      exact ⟨_, rfl, lit_own rfl HB3.out.size rfl rfl (by simp), HB3.out.alloc HB3.out.size _⟩
  · rw [if_neg h1, if_neg h1]
    have e1 : (le == 32) = false := by simp; omega
    have e2 : (g == 102) = false := by simp; omega
    have e3 : (g == 6) = false := by simp; omega
    have hE := esc_len 0 102
    generalize escP 0 102 = E at hE HD ⊢
    clear h1
    go_enter Tryz.func53, Tryz.ntmps53
    go_wp2_with (first
      | (have _u := HK; clear _u; go_at_call 72; refine (HF1.out _ HS.out).mono ?_; rintro e w1 ⟨rfl, rfl⟩; clear HK)
      | (have _u := HK2; clear _u; go_at_call 72; refine (HF2.out _ HS.out).mono ?_; rintro e w2 ⟨rfl, rfl⟩; clear HK2)
      | (go_at_call 74; refine (HA.out _ HS.out).mono ?_; rintro e w3 ⟨rfl, hb3⟩; have HB3 := hid hb3; clear hb3)
      | (go_at_call 75; go_loud (refine (HD.out _).mono ?_; rintro e w4 ⟨v4, rfl, ho4, hb4⟩; have HO4 := hid (ho4.mono (show w.heap.size ≤ _ from by have := HB3.out.size; simp; omega)); have HS4 := hid ((lit_own (k := .u8) (w := w3) (base := w.heap.size) (e := 5) (xs := [p + 128, le]) (n := w3.heap.size) (len := 2) (cs := #[.int .u8 (p + 128), .int .u8 le]) rfl HB3.out.size rfl rfl (by simp)).sl.below hb4); have HB4 := hid ((HB3.out.alloc HB3.out.size _).trans (hb4.mono (by have := HB3.out.size; simp; omega))); clear ho4 hb4))
      | (at_builtin; go_loud (refine wpList_app _ rfl _ _ 42 rfl .u8 w.heap.size 5 1 Tryz.underlying42 Tryz.infoU8 v4 E [p + 128, le] rfl HO4.out _ rfl HS4.out (by unfold maxLen; simp; omega) (by simp; omega) HB4.out.size ?_; intro v5 w5 ho5 hg5 hb5 hn5; have HO5 := hid ho5; have HB5 := hid (HB4.out.trans hb5); clear ho5 hg5 hb5 hn5)))
    go_ret3
    exact ⟨_, rfl, HO5.out, HB5.out⟩
end Go.Proofs.YtildhebaikeknaaGreat
