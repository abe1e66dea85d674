/- Several texts in one: Hang7, Cmp10a, CompSpec, OrdProj, CompSame. -/
import Derived.Test.YtldjcogjimgnbaaPk14
import Derived.Test.YtldjcogjimgnbaaPk2
import Derived.Carry
import Derived.Maps.Keyed
import Derived.Maps.OwnSet
import Derived.DeepKeys4
import Derived.DataBytes
/-! Hang7 -/
namespace Go.Proofs.Ytldjcogjimgnbaa
open Go.RowKit

def amongB (c lo n : Int) : Bool := decide (lo ≤ c ∧ c < lo + n)
theorem amongOk (c lo n : Int) (w : World) (l0 : 0 ≤ lo) (l1 : lo ≤ 1000000) (n0 : 0 ≤ n) (n1 : n ≤ 1000000) : Calls Try.prog 38 #[.int .i64 c, .int .i64 lo, .int .i64 n] w fun e w' => e = .returned (.bool (amongB c lo n)) ∧ w = w' := by
  by_cases h0 : lo ≤ c
  · by_cases h1 : c < lo + n
    · have HR := hid (show amongB c lo n = true from decide_eq_true ⟨h0, h1⟩)
      go_enter Try.func38, Try.ntmps38
      go_wp2
      go_ret
      exact ⟨by rw [HR.out]; rfl, rfl⟩
    · have HR := hid (show amongB c lo n = false from decide_eq_false (fun h => h1 h.2))
      go_enter Try.func38, Try.ntmps38
      go_wp2
      go_ret
      exact ⟨by rw [HR.out]; rfl, rfl⟩
  · have HR := hid (show amongB c lo n = false from decide_eq_false (fun h => h0 h.1))
    go_enter Try.func38, Try.ntmps38
    go_wp2
    go_ret
    exact ⟨by rw [HR.out]; rfl, rfl⟩
def openB (c : Int) : Bool := decide (44032 ≤ c ∧ c ≤ 55203 ∧ (c - 44032) % 28 = 0)
theorem isOpenOk (c : Int) (w : World) : Calls Try.prog 39 #[.int .i64 c] w fun e w' => e = .returned (.bool (openB c)) ∧ w = w' := by
  by_cases hin : 44032 ≤ c ∧ c ≤ 55203
  · obtain ⟨n, rfl⟩ : ∃ n : Nat, c = 44032 + (n : Int) := ⟨(c - 44032).toNat, by omega⟩
    have hn : n ≤ 11171 := by omega
    have e1 : (44032 + (n : Int)) - 44032 = (n : Int) := by omega
    have HB := hid (show amongB (44032 + (n : Int)) 44032 11172 = true from decide_eq_true ⟨by omega, by omega⟩)
    obtain ⟨z, hz⟩ : ∃ z, z = ((n : Int) % 28 == 0) := ⟨_, rfl⟩
    have HR := hid (show z = openB (44032 + (n : Int)) by
      rw [hz, Bool.eq_iff_iff]
      unfold openB
      rw [decide_eq_true_iff, beq_iff_eq, e1]
      omega)
    replace hz := hz.symm
    clear hin
    go_enter Try.func39, Try.ntmps39
    go_wp2_with (go_at_call 38; refine (amongOk (44032 + (n : Int)) 44032 11172 _ (by decide) (by decide) (by decide) (by decide)).mono ?_; rw [HB.out]; rintro e w1 ⟨rfl, rfl⟩)
    go_ret
    exact ⟨by rw [HR.out]; rfl, rfl⟩
  · have HB := hid (show amongB c 44032 11172 = false from decide_eq_false (by omega))
    have HR := hid (show openB c = false from decide_eq_false (fun h => hin ⟨h.1, h.2.1⟩))
    clear hin
    go_enter Try.func39, Try.ntmps39
    go_wp2_with (go_at_call 38; refine (amongOk c 44032 11172 _ (by decide) (by decide) (by decide) (by decide)).mono ?_; rw [HB.out]; rintro e w1 ⟨rfl, rfl⟩)
    go_ret
    exact ⟨by rw [HR.out]; rfl, rfl⟩

theorem div_div21 (n : Nat) : (n : Int) / 28 / 21 = (n : Int) / 588 := by omega
theorem div_mod21 (n : Nat) : (n : Int) / 28 % 21 = (n : Int) % 588 / 28 := by omega

set_option maxHeartbeats 2000000 in
theorem splitO (c : Int) (w : World) (hc : I64n c) : Calls Try.prog 63 #[.int .i64 c] w fun e w' => ∃ x, e = .returned x ∧ Own .i64 3 w.heap.size w' x (splitS c) ∧ Below w.heap.size w w' := by
  obtain ⟨h0, h1⟩ := hc
  by_cases hin : 44032 ≤ c ∧ c ≤ 55203
  · obtain ⟨n, rfl⟩ : ∃ n : Nat, c = 44032 + (n : Int) := ⟨(c - 44032).toNat, by omega⟩
    have hn : n ≤ 11171 := by omega
    have HR := hid (splitS_in hn)
    have e1 : (44032 + (n : Int)) - 44032 = (n : Int) := by omega
    have HB := hid (show amongB (44032 + (n : Int)) 44032 11172 = true from decide_eq_true ⟨by omega, by omega⟩)
    clear hin
    by_cases hm : n % 28 = 0
    · have hm2 : (n : Int) % 28 = 0 := by omega
      have HP := hid (show splitS (44032 + (n : Int)) = [4352 + (n : Int) / 28 / 21, 4449 + (n : Int) / 28 % 21] by rw [HR.out, div_div21, div_mod21]; unfold partsN; rw [if_pos hm])
      clear hm
      go_enter Try.func63, Try.ntmps63
      go_wp2_with (go_at_call 38; refine (amongOk (44032 + (n : Int)) 44032 11172 _ (by decide) (by decide) (by decide) (by decide)).mono ?_; rw [HB.out]; rintro e w1 ⟨rfl, rfl⟩)
      go_ret
      exact ⟨_, rfl, by rw [HP.out]; exact lit_own rfl (Nat.le_refl _) rfl rfl (by simp), by (repeat (first | exact Below.refl _ _ | exact below_drewN _ | refine Below.drew ?_ | refine Below.alloc ?_ (by simp) _ | refine Below.setCell ?_ (by simp) _ | refine below_drewN' ?_ _))⟩
    · have hm2 : ¬ (n : Int) % 28 = 0 := by omega
      have HP := hid (show splitS (44032 + (n : Int)) = [4352 + (n : Int) / 28 / 21, 4449 + (n : Int) / 28 % 21] ++ [4519 + (n : Int) % 28] by rw [HR.out, div_div21, div_mod21]; unfold partsN; rw [if_neg hm]; rfl)
      clear hm
      go_enter Try.func63, Try.ntmps63
      go_wp2_with (first
        | (go_at_call 38; refine (amongOk (44032 + (n : Int)) 44032 11172 _ (by decide) (by decide) (by decide) (by decide)).mono ?_; rw [HB.out]; rintro e w1 ⟨rfl, rfl⟩)
        | (at_builtin; go_loud (refine wpList_app _ rfl _ _ 22 rfl .i64 w.heap.size 3 8 Try.underlying22 Try.infoI64 _ [4352 + (n : Int) / 28 / 21, 4449 + (n : Int) / 28 % 21] [4519 + (n : Int) % 28] rfl (Own.below (lit_own rfl (Nat.le_refl _) rfl rfl (by simp)) (by (repeat (first | exact Below.refl _ _ | exact below_drewN _ | refine Below.drew ?_ | refine Below.alloc ?_ (by simp) _ | refine Below.setCell ?_ (by simp) _ | refine below_drewN' ?_ _)))) _ rfl (one_sl (by first | simp | rfl)) (by unfold maxLen; first | omega | (simp; omega) | simp) (by first | omega | (simp; omega) | simp) (by first | omega | (simp; omega) | simp) ?_); intro v5 w5 ho5 hg5 hb5 hn5; clear hn5 hg5))
      go_ret
      exact ⟨_, rfl, by rw [HP.out]; exact ho5, Below.trans (show Below w.heap.size w _ from by (repeat (first | exact Below.refl _ _ | exact below_drewN _ | refine Below.drew ?_ | refine Below.alloc ?_ (by simp) _ | refine Below.setCell ?_ (by simp) _ | refine below_drewN' ?_ _))) hb5⟩
  · have HR := hid (splitS_out hin)
    have HB := hid (show amongB c 44032 11172 = false from decide_eq_false (by omega))
    clear hin
    go_enter Try.func63, Try.ntmps63
    go_wp2_with (go_at_call 38; refine (amongOk c 44032 11172 _ (by decide) (by decide) (by decide) (by decide)).mono ?_; rw [HB.out]; rintro e w1 ⟨rfl, rfl⟩)
    go_ret
    exact ⟨_, rfl, by rw [HR.out]; exact Own.nil _ _ _ _, Below.refl _ _⟩

theorem splitOk : SplitOk := fun c w hc => (splitO c w hc).mono fun e w' h => by
  obtain ⟨x, hx, ho, hb⟩ := h
  exact ⟨x, hx, ho.sl, hb⟩

set_option maxHeartbeats 2000000 in
theorem joinOk : JoinOk := by
  intro a b w ha hb
  obtain ⟨h0, h00⟩ := ha
  obtain ⟨h1, h11⟩ := hb
  obtain ⟨R, hR⟩ : ∃ R, R = joinS a b := ⟨_, rfl⟩
  rw [← hR]
  by_cases hA : 4352 ≤ a ∧ a ≤ 4370
  · obtain ⟨a0, a1⟩ := hA
    have H1 := hid (show amongB a 4352 19 = true from decide_eq_true ⟨a0, by omega⟩)
    by_cases hB : 4449 ≤ b ∧ b ≤ 4469
    · obtain ⟨b0, b1⟩ := hB
      have H2 := hid (show amongB b 4449 21 = true from decide_eq_true ⟨b0, by omega⟩)
      have HR := hid (show R = (44032 + ((a - 4352) * 21 + b - 4449) * 28, true) by rw [hR]; unfold joinS; rw [if_pos ⟨a0, a1, b0, b1⟩]; congr 1; omega)
      clear hR
      go_enter Try.func17, Try.ntmps17
      go_wp2_with (first
        | (go_at_call 38; with_reducible refine (amongOk a 4352 19 _ (by decide) (by decide) (by decide) (by decide)).mono ?_; rw [H1.out]; rintro e w1 ⟨rfl, rfl⟩)
        | (go_at_call 38; with_reducible refine (amongOk b 4449 21 _ (by decide) (by decide) (by decide) (by decide)).mono ?_; rw [H2.out]; rintro e w1 ⟨rfl, rfl⟩))
      go_ret2
      exact ⟨by rw [HR.out]; rfl, Below.refl _ _⟩
    · have H2 := hid (show amongB b 4449 21 = false from decide_eq_false (by omega))
      have H3 := hid (show openB a = false from decide_eq_false (by omega))
      have HR := hid (show R = (0, false) by rw [hR]; unfold joinS; rw [if_neg (by omega), if_neg (by omega)])
      clear hR hB
      go_enter Try.func17, Try.ntmps17
      go_wp2_with (first
        | (go_at_call 38; with_reducible refine (amongOk a 4352 19 _ (by decide) (by decide) (by decide) (by decide)).mono ?_; rw [H1.out]; rintro e w1 ⟨rfl, rfl⟩)
        | (go_at_call 38; with_reducible refine (amongOk b 4449 21 _ (by decide) (by decide) (by decide) (by decide)).mono ?_; rw [H2.out]; rintro e w1 ⟨rfl, rfl⟩)
        | (go_at_call 39; refine (isOpenOk a _).mono ?_; rw [H3.out]; rintro e w1 ⟨rfl, rfl⟩))
      go_ret2
      exact ⟨by rw [HR.out]; rfl, Below.refl _ _⟩
  · have H1 := hid (show amongB a 4352 19 = false from decide_eq_false (by omega))
    by_cases hC : 44032 ≤ a ∧ a ≤ 55203 ∧ (a - 44032) % 28 = 0
    · have H3 := hid (show openB a = true from decide_eq_true hC)
      by_cases hB : 4520 ≤ b ∧ b ≤ 4546
      · obtain ⟨b0, b1⟩ := hB
        obtain ⟨c0, c1, c2⟩ := hC
        have H4 := hid (show amongB b 4520 27 = true from decide_eq_true ⟨b0, by omega⟩)
        have HR := hid (show R = (a + b - 4519, true) by rw [hR]; unfold joinS; rw [if_neg (by omega), if_pos ⟨c0, c1, c2, b0, b1⟩])
        clear hR hA
        go_enter Try.func17, Try.ntmps17
        go_wp2_with (first
          | (go_at_call 38; with_reducible refine (amongOk a 4352 19 _ (by decide) (by decide) (by decide) (by decide)).mono ?_; rw [H1.out]; rintro e w1 ⟨rfl, rfl⟩)
          | (go_at_call 38; with_reducible refine (amongOk b 4520 27 _ (by decide) (by decide) (by decide) (by decide)).mono ?_; rw [H4.out]; rintro e w1 ⟨rfl, rfl⟩)
          | (go_at_call 39; refine (isOpenOk a _).mono ?_; rw [H3.out]; rintro e w1 ⟨rfl, rfl⟩))
        go_ret2
        exact ⟨by rw [HR.out]; rfl, Below.refl _ _⟩
      · have H4 := hid (show amongB b 4520 27 = false from decide_eq_false (by omega))
        have HR := hid (show R = (0, false) by rw [hR]; unfold joinS; rw [if_neg (by omega), if_neg (by omega)])
        clear hR hB hA hC
        go_enter Try.func17, Try.ntmps17
        go_wp2_with (first
          | (go_at_call 38; with_reducible refine (amongOk a 4352 19 _ (by decide) (by decide) (by decide) (by decide)).mono ?_; rw [H1.out]; rintro e w1 ⟨rfl, rfl⟩)
          | (go_at_call 38; with_reducible refine (amongOk b 4520 27 _ (by decide) (by decide) (by decide) (by decide)).mono ?_; rw [H4.out]; rintro e w1 ⟨rfl, rfl⟩)
          | (go_at_call 39; refine (isOpenOk a _).mono ?_; rw [H3.out]; rintro e w1 ⟨rfl, rfl⟩))
        go_ret2
        exact ⟨by rw [HR.out]; rfl, Below.refl _ _⟩
    · have H3 := hid (show openB a = false from decide_eq_false hC)
      have HR := hid (show R = (0, false) by rw [hR]; unfold joinS; rw [if_neg (by omega), if_neg (by omega)])
      clear hR hA hC
      go_enter Try.func17, Try.ntmps17
      go_wp2_with (first
        | (go_at_call 38; with_reducible refine (amongOk a 4352 19 _ (by decide) (by decide) (by decide) (by decide)).mono ?_; rw [H1.out]; rintro e w1 ⟨rfl, rfl⟩)
        | (go_at_call 39; refine (isOpenOk a _).mono ?_; rw [H3.out]; rintro e w1 ⟨rfl, rfl⟩))
      go_ret2
      exact ⟨by rw [HR.out]; rfl, Below.refl _ _⟩
end Go.Proofs.Ytldjcogjimgnbaa

/-! Cmp10a -/
namespace Go.Proofs.Ytldjcogjimgnbaa
open Go.RowKit Go.Maps

/-- a pair of numbers as a key -/
def pv (a b : Int) : Value := .agg #[.int .i64 a, .int .i64 b]
/-- an answer: whether it was asked for, the composite, whether there is one -/
def av (k : Bool) (c : Int) (o : Bool) : Value := .agg #[.bool k, .int .i64 c, .bool o]
theorem pv_inj {a b c d : Int} (h : pv a b = pv c d) : a = c ∧ b = d := by
  unfold pv at h
  simp only [Value.agg.injEq, Array.mk.injEq, List.cons.injEq, Value.int.injEq, true_and, and_true] at h
  exact h
theorem pr_under : Try.prog.underlying 76 = some (.array 2 3) := by kernel_rfl
theorem pr_cells : Try.prog.cellsOf 76 = 2 := by kernel_rfl
theorem pr_int : Try.prog.cellsOf 3 = 1 := by kernel_rfl
theorem pr_keyType : Try.prog.keyType 76 = true := by kernel_rfl
theorem wf_i64k {c : Int} (h : inI c = true) : (Lit.int .i64 c).wf = true := by
  unfold inI at h
  rw [decide_eq_true_iff] at h
  simpa [Lit.wf, IntKind.min, IntKind.max, IntKind.signed, IntKind.bits] using h
theorem types_more10 : ∃ m, Try.prog.types.size = m + 1 := ⟨Try.prog.types.size - 1, by
  have : 0 < Try.prog.types.size := of_decide_eq_true (by kernel_rfl)
  omega⟩
theorem pr_key {a b : Int} (ha : inI a = true) (hb : inI b = true) : keyOf Try.prog 76 (pv a b) = some (.string (keyBytes [Lit.int .i64 a, Lit.int .i64 b])) := by
  obtain ⟨m, hm⟩ := types_more10
  unfold keyOf pv
  simp only [pr_under]
  rw [if_pos (by simp [pr_keyType, Value.formed, pr_cells]), hm]
  unfold Program.keyLits
  simp only [pr_under, Value.cells]
  rw [if_pos (by rw [pr_cells]; rfl)]
  have key := mapM_some_of_forall (f := fun i => Try.prog.keyLits (m + 1) 3 (((#[Value.int .i64 a, Value.int .i64 b]).toList.drop (i * Try.prog.cellsOf 3)).take (Try.prog.cellsOf 3))) (g := fun i => [Lit.int .i64 (if i = 0 then a else b)]) (List.range 2) (fun i hi => by
    have hi := List.mem_range.1 hi
    have e : ((#[Value.int .i64 a, Value.int .i64 b]).toList.drop (i * Try.prog.cellsOf 3)).take (Try.prog.cellsOf 3) = [.int .i64 (if i = 0 then a else b)] := by
      rw [pr_int, Nat.mul_one]
      rcases (show i = 0 ∨ i = 1 by omega) with rfl | rfl <;> rfl
    rw [e]
    unfold Program.keyLits
    simp only [Try.underlying3]
    rw [if_pos ⟨trivial, by split; exact wf_i64k ha; exact wf_i64k hb⟩])
  rw [key]
  rfl
theorem Try.laidOut10 : laidOutB Try.prog = true := by kernel_rfl
theorem pr_row : (76 : TypeId) < Try.prog.types.size := of_decide_eq_true (by kernel_rfl)
theorem pr_wide : (match Try.prog.underlying 76 with | some (.array _ _) | some (.struct _) => true | _ => false) = true := by kernel_rfl
set_option maxRecDepth 100000 in
theorem pr_law : Keyed Try.prog 76 := Keyed.of_law (deep_law_laid Try.laidOut10 (m := 2) (by omega) pr_row (by kernel_rfl) pr_wide)

/-- an entry tells what two numbers compose, if it was asked for -/
def AnsE (e : MapEntry) : Prop := ∃ a b k c o, e.key = pv a b ∧ inI a = true ∧ inI b = true ∧ e.val = av k c o ∧ (k = true → (c, o) = twoS a b)
/-- the map in block M: each entry tells what is so; all pairs of L are among the keys -/
def MapC (L : List Rg) (M : Nat) (w : World) : Prop := ∃ es clock, w.heap[M]? = some (.map es clock) ∧ (∀ e ∈ es.toList, AnsE e) ∧ ∀ r ∈ L, ∃ e ∈ es.toList, e.key = pv r.t r.v
theorem MapC.lt {L : List Rg} {M : Nat} {w : World} (h : MapC L M w) : M < w.heap.size := by
  obtain ⟨es, clock, hm, -⟩ := h
  exact (Array.getElem?_eq_some_iff.1 hm).1
theorem MapC.below {L : List Rg} {M : Nat} {w w' : World} (h : MapC L M w) (hb : Below w.heap.size w w') : MapC L M w' := by
  have hl := h.lt
  obtain ⟨es, clock, hm, h1, h2⟩ := h
  exact ⟨es, clock, (hb.block M hl).trans hm, h1, h2⟩
theorem MapC.same {L : List Rg} {M : Nat} {w w' : World} (h : MapC L M w) (hb : w'.heap[M]? = w.heap[M]?) : MapC L M w' := by
  obtain ⟨es, clock, hm, h1, h2⟩ := h
  exact ⟨es, clock, hb.trans hm, h1, h2⟩
theorem MapC.nil {M clock : Nat} {w : World} (h : w.heap[M]? = some (.map #[] clock)) : MapC [] M w := ⟨_, _, h, fun e he => by simp at he, fun r hr => by cases hr⟩
theorem MapC.nobox {L : List Rg} {M B : Nat} {w : World} {t : TypeId} {cs : List Value} (h : MapC L M w) (hb : Box t cs B w) : B ≠ M := fun e => by
  obtain ⟨es, clock, hm, -⟩ := h
  subst e
  unfold Box at hb
  rw [hm] at hb
  cases hb
theorem AnsE.key {e : MapEntry} (h : AnsE e) : ∃ l, keyOf Try.prog 76 e.key = some l := by
  obtain ⟨a, b, k, c, o, hk, ha, hb, -⟩ := h
  rw [hk]
  exact ⟨_, pr_key ha hb⟩
theorem zero_ans (w : World) : (zeroValue 88).run Try.prog w = .ok (av false 0 false) w := by kernel_rfl

/-- what an answer that was found says -/
def AnsOk (a b : Int) (k : Bool) (c : Int) (o : Bool) : Prop := k = true → (c, o) = twoS a b
theorem store_pair {L : List Rg} {M : Nat} {W : World} (h : MapC L M W) {a b : Int} (ha : inI a = true) (hb : inI b = true) {k o : Bool} {c : Int} (hc : AnsOk a b k c o) :
    ∃ W', (Instr.mapUpdate 46 (.map (some M)) (pv a b) (av k c o)).run Try.prog W = .ok () W' ∧ W.grownBy W' (some M) ∧ ∀ f, MapC (L ++ [⟨f, a, b⟩]) M W' := by
  obtain ⟨es, clock, hM, h1, h2⟩ := h
  have hkey := pr_key ha hb
  have ht := Try.underlying46
  have grown : ∀ o, W.grownBy (ChangeMaps.setBlock W M o) (some M) := fun o => ⟨rfl, rfl, rfl, by simp [ChangeMaps.setBlock], fun i _ hi => ChangeMaps.heap_setBlock_other hM _ (fun e => hi (by rw [e]))⟩
  rcases pr_law.find W hkey es.toList (fun x hx => (h1 x hx).key) with ⟨hf, hn⟩ | ⟨j, e0, hf, he, hk⟩
  · refine ⟨_, by simp [Instr.mapUpdate, run_underlying ht, MapKept.run_getObj_map hM, pr_law.check W false hkey, hf, MapKept.run_setObj_map _ hM, Result.andThen]; rfl, grown _, fun f => ⟨_, _, ChangeMaps.heap_setBlock_same hM _, fun e he => ?_, fun r hr => ?_⟩⟩
    · simp only [Array.toList_push, List.mem_append, List.mem_singleton] at he
      rcases he with he | rfl
      · exact h1 e he
      · exact ⟨a, b, k, c, o, rfl, ha, hb, rfl, hc⟩
    · simp only [Array.toList_push, List.mem_append, List.mem_singleton]
      rcases List.mem_append.1 hr with hr | hr
      · obtain ⟨e, hem, hek⟩ := h2 r hr
        exact ⟨e, .inl hem, hek⟩
      · rw [List.mem_singleton] at hr
        subst hr
        exact ⟨_, .inr rfl, rfl⟩
  · have hj : es[j]? = some e0 := by simpa using he
    have hst := pr_law.stays W hkey
    refine ⟨_, by simp [Instr.mapUpdate, run_underlying ht, MapKept.run_getObj_map hM, pr_law.check W false hkey, hf, hj, hk, hst, MapKept.run_setObj_map _ hM, Result.andThen]; rfl, grown _, fun f => ⟨_, _, ChangeMaps.heap_setBlock_same hM _, ?_, ?_⟩⟩
    · intro e hem
      rw [Array.toList_modify, ChangeMaps.modify_eq_set _ _ _ _ he] at hem
      rcases List.mem_or_eq_of_mem_set hem with hem | rfl
      · exact h1 e hem
      · exact ⟨a, b, k, c, o, rfl, ha, hb, rfl, hc⟩
    · intro r hr
      rw [Array.toList_modify, ChangeMaps.modify_eq_set _ _ _ _ he]
      have hnew : ∀ z : MapEntry, z.key = pv a b → ∀ x ∈ es.toList, x.key = pv r.t r.v → ∃ e ∈ es.toList.set j z, e.key = pv r.t r.v := fun z hz x hx hxk => by
        obtain ⟨i, hi, hix⟩ := List.getElem_of_mem hx
        by_cases hij : j = i
        · subst hij
          refine ⟨z, List.mem_of_getElem? (i := j) (List.getElem?_set_self hi), ?_⟩
          have : x = e0 := by rw [← hix]; rw [List.getElem?_eq_getElem hi] at he; exact Option.some.inj he
          rw [← hxk, this, hk, hz]
        · exact ⟨x, List.mem_of_getElem? (i := i) (by rw [List.getElem?_set_ne hij, List.getElem?_eq_getElem hi, hix]), hxk⟩
      rcases List.mem_append.1 hr with hr | hr
      · obtain ⟨e, hem, hek⟩ := h2 r hr
        exact hnew _ rfl e hem hek
      · rw [List.mem_singleton] at hr
        subst hr
        exact hnew _ rfl e0 (List.mem_of_getElem? he) hk

/-- what is not in the tables is made by letters alone -/
theorem two_off {a b : Int} (h : ∀ r ∈ tabCanon, ¬ (r.t = a ∧ r.v = b)) : twoS a b = joinS a b := by
  unfold twoS
  cases hj : (joinS a b).2 with
  | true => rw [if_pos rfl, ← hj]
  | false =>
    rw [if_neg (by simp)]
    have hp : ∀ l : List Rg, (∀ r ∈ l, (r.t == a && r.v == b) = false) → fndS (fun r => r.t == a && r.v == b) l = (noRg, false) := fun l => by
      induction l with
      | nil => intro _; rfl
      | cons r l ih =>
        intro hl
        unfold fndS
        rw [hl r (by simp)]
        exact ih fun x hx => hl x (by simp [hx])
    have hz : joinS a b = (0, false) := by
      unfold joinS at hj ⊢
      split
      · rename_i h1; rw [if_pos h1] at hj; cases hj
      · split
        · rename_i h1 h2; rw [if_neg h1, if_pos h2] at hj; cases hj
        · rfl
    unfold pairS
    rw [hp tabPair (fun r hr => by
      have hm : r ∈ tabCanon := (List.mem_filter.1 hr).1
      have := h r hm
      simp only [Bool.and_eq_false_imp, beq_iff_eq, beq_eq_false_iff_ne]
      exact fun e1 e2 => this ⟨e1, e2⟩), hz]
    rfl
end Go.Proofs.Ytldjcogjimgnbaa

/-! CompSpec -/
namespace Go.Proofs.Ytldjcogjimgnbaa

/-- something stands between the starter and c -/
def offG (cl : Int → Int) (M : List Int) (c : Int) : Bool :=
  match M.getLast? with
  | none => false
  | some y => cl y == 0 || decide (cl c ≤ cl y)
/-- the list so far: what lies ahead of the starter, the starter, what lies behind it -/
structure Cp where
  p : List Int
  s : Option Int
  m : List Int
def Cp.out (q : Cp) : List Int := q.p ++ (q.s.toList ++ q.m)
def stepG (cl : Int → Int) (two : Int → Int → Int × Bool) (q : Cp) (c : Int) : Cp :=
  match q.s with
  | none => if cl c = 0 then ⟨q.p ++ q.m, some c, []⟩ else ⟨q.p, none, q.m ++ [c]⟩
  | some S => if (two S c).2 && !offG cl q.m c then ⟨q.p, some (two S c).1, q.m⟩ else if cl c = 0 then ⟨q.p ++ S :: q.m, some c, []⟩ else ⟨q.p, some S, q.m ++ [c]⟩
def fromG (cl : Int → Int) (two : Int → Int → Int × Bool) (s : List Int) : Cp := s.foldl (stepG cl two) ⟨[], none, []⟩
def compG (cl : Int → Int) (two : Int → Int → Int × Bool) (s : List Int) : List Int := (fromG cl two s).out

variable {cl : Int → Int} {two : Int → Int → Int × Bool}
theorem fromG_snoc (s : List Int) (c : Int) : fromG cl two (s ++ [c]) = stepG cl two (fromG cl two s) c := by
  unfold fromG
  rw [List.foldl_append]
  rfl
theorem step_join {q : Cp} {S c : Int} (hs : q.s = some S) (h : (two S c).2 = true) (ho : offG cl q.m c = false) : stepG cl two q c = ⟨q.p, some (two S c).1, q.m⟩ := by
  unfold stepG
  rw [hs]
  simp only [h, ho, Bool.not_false, Bool.and_true, if_true]
theorem step_new {q : Cp} {c : Int} (hc : cl c = 0) (h : ∀ S, q.s = some S → ((two S c).2 && !offG cl q.m c) = false) : stepG cl two q c = ⟨q.out, some c, []⟩ := by
  unfold stepG Cp.out
  cases hs : q.s with
  | none =>
    simp only [hc, if_true]
    rfl
  | some S =>
    simp only [h S hs, hc, if_true]
    rfl
theorem step_add {q : Cp} {c : Int} (hc : cl c ≠ 0) (h : ∀ S, q.s = some S → ((two S c).2 && !offG cl q.m c) = false) : stepG cl two q c = ⟨q.p, q.s, q.m ++ [c]⟩ := by
  unfold stepG
  cases hs : q.s with
  | none => simp only [hc, if_false]
  | some S =>
    simp only [h S hs, hc, if_false]
    rfl
theorem out_add (q : Cp) (c : Int) : (⟨q.p, q.s, q.m ++ [c]⟩ : Cp).out = q.out ++ [c] := by
  unfold Cp.out
  simp
theorem out_new (l : List Int) (c : Int) : (⟨l, some c, []⟩ : Cp).out = l ++ [c] := rfl
theorem step_out (q : Cp) (c : Int) : (∃ S, q.s = some S ∧ ((two S c).2 && !offG cl q.m c) = true ∧ stepG cl two q c = ⟨q.p, some (two S c).1, q.m⟩) ∨ ((∀ S, q.s = some S → ((two S c).2 && !offG cl q.m c) = false) ∧ (stepG cl two q c).out = q.out ++ [c]) := by
  by_cases h : ∃ S, q.s = some S ∧ ((two S c).2 && !offG cl q.m c) = true
  · obtain ⟨S, hs, hh⟩ := h
    refine .inl ⟨S, hs, hh, ?_⟩
    rw [Bool.and_eq_true, Bool.not_eq_true'] at hh
    exact step_join hs hh.1 hh.2
  · have hn : ∀ S, q.s = some S → ((two S c).2 && !offG cl q.m c) = false := fun S hs => by
      cases hb : ((two S c).2 && !offG cl q.m c) with
      | false => rfl
      | true => exact absurd ⟨S, hs, hb⟩ h
    refine .inr ⟨hn, ?_⟩
    by_cases hc : cl c = 0
    · rw [step_new hc hn]; rfl
    · rw [step_add hc hn, out_add]
theorem step_len (q : Cp) (c : Int) : (stepG cl two q c).out.length ≤ q.out.length + 1 := by
  rcases step_out (cl := cl) (two := two) q c with ⟨S, hs, -, he⟩ | ⟨-, he⟩
  · rw [he]
    unfold Cp.out
    rw [hs]
    simp
  · rw [he, List.length_append]
    exact Nat.le_refl _
theorem comp_len (s : List Int) : (compG cl two s).length ≤ s.length := by
  have key : ∀ (s : List Int) (q : Cp), (s.foldl (stepG cl two) q).out.length ≤ q.out.length + s.length := fun s => by
    induction s with
    | nil => intro q; exact Nat.le_refl _
    | cons c s ih =>
      intro q
      have h1 := ih (stepG cl two q c)
      have h2 := step_len (cl := cl) (two := two) q c
      rw [List.foldl_cons, List.length_cons]
      omega
  have h := key s ⟨[], none, []⟩
  rw [show ((⟨[], none, []⟩ : Cp).out).length = 0 from rfl, Nat.zero_add] at h
  exact h
/-- what holds of the numbers and of all that two of them make holds of the composition -/
theorem comp_all {R : Int → Prop} (h2 : ∀ a b, (two a b).2 = true → R (two a b).1) (s : List Int) (hs : ∀ x ∈ s, R x) : ∀ x ∈ compG cl two s, R x := by
  have key : ∀ (s : List Int) (q : Cp), (∀ x ∈ s, R x) → (∀ x ∈ q.out, R x) → ∀ x ∈ (s.foldl (stepG cl two) q).out, R x := fun s => by
    induction s with
    | nil => intro q _ h; exact h
    | cons c s ih =>
      intro q hs hq
      rw [List.foldl_cons]
      refine ih _ (fun x hx => hs x (List.mem_cons_of_mem _ hx)) ?_
      rcases step_out (cl := cl) (two := two) q c with ⟨S, hss, hh, he⟩ | ⟨-, he⟩
      · rw [he]
        rw [Bool.and_eq_true] at hh
        intro x hx
        unfold Cp.out at hx hq
        simp only [Option.toList_some, List.mem_append, List.mem_cons, List.not_mem_nil, or_false] at hx
        rcases hx with hx | rfl | hx
        · exact hq x (by simp [hx])
        · exact h2 S c hh.1
        · exact hq x (by simp [hx])
      · rw [he]
        intro x hx
        rcases List.mem_append.1 hx with hx | hx
        · exact hq x hx
        · obtain rfl : x = c := by simpa using hx
          exact hs x (by simp)
  exact key s ⟨[], none, []⟩ hs (by intro x hx; cases hx)
/-- two numbers alone -/
theorem comp_two (h2 : ∀ a b, (two a b).2 = true → cl a = 0) (a b : Int) : compG cl two [a, b] = if (two a b).2 then [(two a b).1] else [a, b] := by
  unfold compG fromG
  rw [List.foldl_cons, List.foldl_cons, List.foldl_nil]
  by_cases ha : cl a = 0
  · rw [step_new ha (by intro S h; cases h)]
    by_cases hb : (two a b).2 = true
    · rw [step_join (S := a) rfl hb rfl, if_pos hb]
      rfl
    · have hn : ∀ S, some a = some S → ((two S b).2 && !offG cl ([] : List Int) b) = false := fun S h => by
        cases h
        rw [Bool.not_eq_true] at hb
        rw [hb]
        rfl
      rw [if_neg hb]
      by_cases hc : cl b = 0
      · rw [step_new hc hn]; rfl
      · rw [step_add hc hn]; rfl
  · rw [step_add ha (by intro S h; cases h), if_neg (fun h => ha (h2 a b h))]
    have hn : ∀ S, (none : Option Int) = some S → ((two S b).2 && !offG cl ([] ++ [a] : List Int) b) = false := fun S h => by cases h
    by_cases hc : cl b = 0
    · rw [step_new hc hn]; rfl
    · rw [step_add hc hn]; rfl
/-- a letter and two marks -/
theorem comp_three {l a b : Int} (hl : cl l = 0) (ha : cl a ≠ 0) : compG cl two [l, a, b] =
    if (two l a).2 then (if (two (two l a).1 b).2 then [(two (two l a).1 b).1] else [(two l a).1, b])
    else if (two l b).2 && !decide (cl b ≤ cl a) then [(two l b).1, a] else [l, a, b] := by
  unfold compG fromG
  rw [List.foldl_cons, List.foldl_cons, List.foldl_cons, List.foldl_nil, step_new hl (by intro S h; cases h)]
  by_cases h1 : (two l a).2 = true
  · rw [step_join (S := l) rfl h1 rfl, if_pos h1]
    by_cases h3 : (two (two l a).1 b).2 = true
    · rw [step_join (S := (two l a).1) rfl h3 rfl, if_pos h3]
      rfl
    · rw [if_neg h3]
      have hn : ∀ S, some (two l a).1 = some S → ((two S b).2 && !offG cl ([] : List Int) b) = false := fun S h => by
        cases h
        rw [Bool.not_eq_true] at h3
        rw [h3]
        rfl
      by_cases hc : cl b = 0
      · rw [step_new hc hn]; rfl
      · rw [step_add hc hn]; rfl
  · rw [if_neg h1, step_add ha (by
      intro S h
      cases h
      rw [Bool.not_eq_true] at h1
      rw [h1]
      rfl)]
    have ho : offG cl ([] ++ [a] : List Int) b = decide (cl b ≤ cl a) := by
      show (cl a == 0 || decide (cl b ≤ cl a)) = _
      rw [show (cl a == 0) = false from beq_eq_false_iff_ne.2 ha]
      rfl
    by_cases h2 : ((two l b).2 && !decide (cl b ≤ cl a)) = true
    · rw [if_pos h2]
      rw [Bool.and_eq_true, Bool.not_eq_true'] at h2
      rw [step_join (S := l) rfl h2.1 (by rw [← ho] at h2; exact h2.2)]
      rfl
    · rw [if_neg h2]
      have hn : ∀ S, some l = some S → ((two S b).2 && !offG cl ([] ++ [a] : List Int) b) = false := fun S h => by
        cases h
        rw [ho]
        rw [Bool.not_eq_true] at h2
        exact h2
      by_cases hc : cl b = 0
      · rw [step_new hc hn]; rfl
      · rw [step_add hc hn]; rfl
end Go.Proofs.Ytldjcogjimgnbaa

/-! OrdProj -/
namespace Go.Proofs.Ytldjcogjimgnbaa

def projG (cl : Int → Int) (k : Int) (s : List Int) : List Int := s.filter (fun c => cl c == 0 || cl c == k)
variable {cl : Int → Int}
theorem proj_app (k : Int) (a b : List Int) : projG cl k (a ++ b) = projG cl k a ++ projG cl k b := List.filter_append ..
theorem proj_cons (k x : Int) (s : List Int) : projG cl k (x :: s) = if (cl x == 0 || cl x == k) then x :: projG cl k s else projG cl k s := List.filter_cons
theorem ins_proj (hp : ∀ c, 0 ≤ cl c) (k x : Int) : ∀ acc : List Int, projG cl k (insG cl x acc) = if (cl x == 0 || cl x == k) then x :: projG cl k acc else projG cl k acc
  | [] => by rw [insG, proj_cons]
  | y :: r => by
    rw [insG]
    split
    · rename_i hc
      rw [proj_cons, ins_proj hp k x r, proj_cons]
      by_cases h : (cl x == 0 || cl x == k) = true
      · have h2 : (cl y == 0 || cl y == k) = false := by
          have := hp x
          simp only [Bool.or_eq_true, beq_iff_eq] at h
          simp only [Bool.or_eq_false_iff, beq_eq_false_iff_ne]
          omega
        rw [h, h2]
        rfl
      · rw [if_neg h, if_neg h]
    · rw [proj_cons k x]
theorem from_proj (hp : ∀ c, 0 ≤ cl c) (k : Int) : ∀ (s acc : List Int), projG cl k (putFrom cl s acc) = (projG cl k s).reverse ++ projG cl k acc
  | [], _ => rfl
  | x :: s, acc => by
    show projG cl k (putFrom cl s (insG cl x acc)) = _
    rw [from_proj hp k s, ins_proj hp, proj_cons]
    by_cases h : (cl x == 0 || cl x == k) = true
    · rw [if_pos h, if_pos h]; simp
    · rw [if_neg h, if_neg h]
theorem put_proj (hp : ∀ c, 0 ≤ cl c) (k : Int) (s : List Int) : projG cl k (putG cl s) = projG cl k s := by
  unfold putG
  have := from_proj hp k s []
  unfold projG at this ⊢
  rw [List.filter_reverse, this]
  simp
theorem ord_tail {a : Int} : ∀ {s : List Int}, ordG cl (a :: s) = true → ordG cl s = true
  | [], _ => rfl
  | b :: r, h => by
    rw [ordG, Bool.and_eq_true] at h
    exact h.2
/-- in order behind a number of class m: the first number of class 0 or k, where k is less than m, is of class 0 -/
theorem first_proj {m k : Int} (hk0 : k ≠ 0) (hkm : k < m) : ∀ {b : Int} {s : List Int}, ordG cl (b :: s) = true → m ≤ cl b → cl b ≠ 0 → ∀ x r, projG cl k (b :: s) = x :: r → cl x = 0
  | b, [], _, hb, hb0, x, r, h => by
    have h2 : (cl b == 0 || cl b == k) = false := by
      simp only [Bool.or_eq_false_iff, beq_eq_false_iff_ne]
      omega
    rw [proj_cons, h2] at h
    cases h
  | b, c :: s, ho, hb, hb0, x, r, h => by
    have h2 : (cl b == 0 || cl b == k) = false := by
      simp only [Bool.or_eq_false_iff, beq_eq_false_iff_ne]
      omega
    rw [proj_cons, h2] at h
    simp only [Bool.false_eq_true, if_false] at h
    have ho' := ho
    rw [ordG, Bool.and_eq_true] at ho'
    have hc := ho'.1
    simp only [Bool.not_eq_true', decide_eq_false_iff_not] at hc
    by_cases hc0 : cl c = 0
    · rw [proj_cons, show (cl c == 0 || cl c == k) = true by simp [hc0]] at h
      simp only [if_true] at h
      injection h with h3 _
      rw [← h3]
      exact hc0
    · exact first_proj hk0 hkm ho'.2 (by omega) hc0 x r h
theorem sorted_proj (hp : ∀ c, 0 ≤ cl c) : ∀ {x y : List Int}, ordG cl x = true → ordG cl y = true → (∀ k, projG cl k x = projG cl k y) → x = y
  | [], [], _, _, _ => rfl
  | [], b :: y, _, _, h => by
    have := h (cl b)
    rw [proj_cons] at this
    simp [projG] at this
  | a :: x, [], _, _, h => by
    have := h (cl a)
    rw [proj_cons] at this
    simp [projG] at this
  | a :: x, b :: y, hx, hy, h => by
    have ha := hp a
    have hb := hp b
    have pa : ∀ k, (cl a == 0 || cl a == k) = true → ∃ r, projG cl k (a :: x) = a :: r := fun k hk => ⟨_, by rw [proj_cons, if_pos hk]⟩
    have pb : ∀ k, (cl b == 0 || cl b == k) = true → ∃ r, projG cl k (b :: y) = b :: r := fun k hk => ⟨_, by rw [proj_cons, if_pos hk]⟩
    have e : a = b := by
      obtain ⟨r1, h1⟩ := pa (cl a) (by simp)
      obtain ⟨r2, h2⟩ := pb (cl b) (by simp)
      by_cases ha0 : cl a = 0
      · obtain ⟨r3, h3⟩ := pa (cl b) (by simp [ha0])
        have := h (cl b)
        rw [h3, h2] at this
        injection this
      · by_cases hb0 : cl b = 0
        · obtain ⟨r3, h3⟩ := pb (cl a) (by simp [hb0])
          have := h (cl a)
          rw [h1, h3] at this
          injection this
        · by_cases hab : cl a = cl b
          · have := h (cl a)
            rw [h1, hab, h2] at this
            injection this
          · rcases Int.lt_or_gt_of_ne hab with hl | hl
            · have := h (cl a)
              rw [h1] at this
              exact absurd (first_proj ha0 hl hy (Int.le_refl _) hb0 a r1 this.symm) ha0
            · have := h (cl b)
              rw [h2] at this
              exact absurd (first_proj hb0 hl hx (Int.le_refl _) ha0 b r2 this) hb0
    subst e
    congr 1
    refine sorted_proj hp (ord_tail hx) (ord_tail hy) fun k => ?_
    have := h k
    rw [proj_cons, proj_cons] at this
    by_cases hk : (cl a == 0 || cl a == k) = true
    · rw [if_pos hk, if_pos hk] at this
      injection this
    · rw [if_neg hk, if_neg hk] at this
      exact this
theorem put_of_proj (hp : ∀ c, 0 ≤ cl c) {a b : List Int} (h : ∀ k, projG cl k a = projG cl k b) : putG cl a = putG cl b :=
  sorted_proj hp (put_ord hp a) (put_ord hp b) fun k => by rw [put_proj hp, put_proj hp, h k]
theorem proj_of_put (hp : ∀ c, 0 ≤ cl c) {a b : List Int} (h : putG cl a = putG cl b) (k : Int) : projG cl k a = projG cl k b := by
  rw [← put_proj hp, h, put_proj hp]
/-- numbers of no class of k's, and none of class 0 -/
theorem proj_none {k : Int} {s : List Int} (h : ∀ x ∈ s, cl x ≠ 0 ∧ cl x ≠ k) : projG cl k s = [] := by
  unfold projG
  rw [List.filter_eq_nil_iff]
  intro x hx
  obtain ⟨h1, h2⟩ := h x hx
  simp [h1, h2]
end Go.Proofs.Ytldjcogjimgnbaa

/-! CompSame -/
namespace Go.Proofs.Ytldjcogjimgnbaa

variable {cl : Int → Int} {two : Int → Int → Int × Bool} {o : Int → List Int}
/-- of class 0 and of k's class nothing comes of numbers of other classes -/
theorem flat_none {k : Int} (h2 : ∀ y, cl y ≠ 0 → ∀ x ∈ o y, cl x = cl y) {M : List Int} (hM : ∀ y ∈ M, cl y ≠ 0 ∧ cl y ≠ k) : projG cl k (M.flatMap o) = [] := by
  refine proj_none fun x hx => ?_
  rw [List.mem_flatMap] at hx
  obtain ⟨y, hy, hx⟩ := hx
  obtain ⟨h0, hk⟩ := hM y hy
  rw [h2 y h0 x hx]
  exact ⟨h0, hk⟩
/-- what holds of the list so far, behind the numbers p -/
def InvC (cl : Int → Int) (o : Int → List Int) (q : Cp) (p : List Int) : Prop :=
  (∀ k, projG cl k (q.out.flatMap o) = projG cl k (p.flatMap o)) ∧
  ((∃ S, q.s = some S) → ∀ y ∈ q.m, cl y ≠ 0 ∧ (∃ z, p.getLast? = some z ∧ cl y ≤ cl z) ∧ ∀ z, q.m.getLast? = some z → cl y ≤ cl z)
theorem inv_step (hp : ∀ c, 0 ≤ cl c) (h1 : ∀ S c, (two S c).2 = true → o (two S c).1 = o S ++ o c) (h2 : ∀ y, cl y ≠ 0 → ∀ x ∈ o y, cl x = cl y) {q : Cp} {p : List Int} {c : Int}
    (ho : ordG cl (p ++ [c]) = true) (hi : InvC cl o q p) : InvC cl o (stepG cl two q c) (p ++ [c]) := by
  obtain ⟨hi1, hi2⟩ := hi
  rw [ord_app, Bool.and_eq_true, Bool.not_eq_true', decide_eq_false_iff_not] at ho
  have hadj : ∀ z, p.getLast? = some z → cl c ≠ 0 → cl z ≤ cl c := fun z hz hc => by
    have := ho.2
    have h3 : ¬ (cl c ≠ 0 ∧ cl c < cl z) := fun h => this ⟨z, hz, h⟩
    omega
  by_cases hj : ∃ S, q.s = some S ∧ ((two S c).2 && !offG cl q.m c) = true
  · obtain ⟨S, hs, hh⟩ := hj
    rw [Bool.and_eq_true, Bool.not_eq_true'] at hh
    rw [step_join hs hh.1 hh.2]
    have hM : ∀ y ∈ q.m, cl y ≠ 0 ∧ cl y < cl c := fun y hy => by
      obtain ⟨g1, -, g3⟩ := hi2 ⟨S, hs⟩ y hy
      refine ⟨g1, ?_⟩
      cases hl : q.m.getLast? with
      | none =>
        rw [List.getLast?_eq_none_iff] at hl
        rw [hl] at hy
        cases hy
      | some z =>
        have h4 := hh.2
        unfold offG at h4
        rw [hl] at h4
        simp only [Bool.or_eq_false_iff, decide_eq_false_iff_not] at h4
        have := g3 z hl
        omega
    constructor
    · intro k
      have e1 : (⟨q.p, some (two S c).1, q.m⟩ : Cp).out.flatMap o = q.p.flatMap o ++ (o S ++ o c ++ q.m.flatMap o) := by
        unfold Cp.out
        simp only [List.flatMap_append, Option.toList_some, List.flatMap_cons, List.flatMap_nil, List.append_nil, h1 S c hh.1]
      have e2 : q.out.flatMap o = q.p.flatMap o ++ (o S ++ q.m.flatMap o) := by
        unfold Cp.out
        rw [hs]
        simp only [List.flatMap_append, Option.toList_some, List.flatMap_cons, List.flatMap_nil, List.append_nil]
      have e3 : (p ++ [c]).flatMap o = p.flatMap o ++ o c := by simp
      have e4 : projG cl k (o c) ++ projG cl k (q.m.flatMap o) = projG cl k (q.m.flatMap o) ++ projG cl k (o c) := by
        by_cases hm : q.m = []
        · rw [hm]
          simp [projG]
        · obtain ⟨y, hy⟩ := List.exists_mem_of_ne_nil _ hm
          have hc0 : cl c ≠ 0 := by
            have := (hM y hy).2
            have := hp y
            omega
          by_cases hk : k = cl c
          · rw [flat_none h2 (k := k) (M := q.m) (fun y hy => ⟨(hM y hy).1, by have := (hM y hy).2; omega⟩)]
            simp
          · have := flat_none (k := k) h2 (M := [c]) (fun y hy => by
              obtain rfl : y = c := by simpa using hy
              exact ⟨hc0, fun h => hk h.symm⟩)
            rw [show [c].flatMap o = o c by simp] at this
            rw [this]
            simp
      rw [e1, e3, proj_app, proj_app k (p.flatMap o), ← hi1 k, e2, proj_app, proj_app, proj_app, proj_app, List.append_assoc, e4, List.append_assoc, List.append_assoc]
    · intro _ y hy
      obtain ⟨g1, -, g3⟩ := hi2 ⟨S, hs⟩ y hy
      exact ⟨g1, ⟨c, by simp, by have := (hM y hy).2; omega⟩, g3⟩
  · have hn : ∀ S, q.s = some S → ((two S c).2 && !offG cl q.m c) = false := fun S hs => by
      cases hb : ((two S c).2 && !offG cl q.m c) with
      | false => rfl
      | true => exact absurd ⟨S, hs, hb⟩ hj
    have hout : (stepG cl two q c).out = q.out ++ [c] := by
      by_cases hc : cl c = 0
      · rw [step_new hc hn]; rfl
      · rw [step_add hc hn, out_add]
    constructor
    · intro k
      rw [hout, List.flatMap_append, List.flatMap_append, proj_app, proj_app, hi1 k]
    · by_cases hc : cl c = 0
      · rw [step_new hc hn]
        intro _ y hy
        cases hy
      · rw [step_add hc hn]
        rintro ⟨S, hs⟩ y hy
        have hs' : q.s = some S := hs
        have hy' : y ∈ q.m ++ [c] := hy
        rw [List.mem_append] at hy'
        have hle : cl y ≠ 0 ∧ cl y ≤ cl c := by
          rcases hy' with hy' | hy'
          · obtain ⟨g1, ⟨z, hz, hz2⟩, -⟩ := hi2 ⟨S, hs'⟩ y hy'
            have := hadj z hz hc
            exact ⟨g1, by omega⟩
          · obtain rfl : y = c := by simpa using hy'
            exact ⟨hc, Int.le_refl _⟩
        refine ⟨hle.1, ⟨c, by simp, hle.2⟩, fun z hz => ?_⟩
        have hz' : (q.m ++ [c]).getLast? = some z := hz
        rw [List.getLast?_append] at hz'
        obtain rfl : c = z := by simpa using hz'
        exact hle.2
theorem ord_prefix : ∀ {a b : List Int}, ordG cl (a ++ b) = true → ordG cl a = true
  | [], _, _ => rfl
  | [x], _, _ => rfl
  | x :: y :: a, b, h => by
    have h' : ordG cl (x :: y :: (a ++ b)) = true := h
    rw [ordG, Bool.and_eq_true] at h' ⊢
    exact ⟨h'.1, ord_prefix (a := y :: a) h'.2⟩
theorem comp_proj (hp : ∀ c, 0 ≤ cl c) (h1 : ∀ S c, (two S c).2 = true → o (two S c).1 = o S ++ o c) (h2 : ∀ y, cl y ≠ 0 → ∀ x ∈ o y, cl x = cl y) (s : List Int) (hs : ordG cl s = true) (k : Int) :
    projG cl k ((compG cl two s).flatMap o) = projG cl k (s.flatMap o) := by
  have key : ∀ n, n ≤ s.length → InvC cl o (fromG cl two (s.take n)) (s.take n) := fun n => by
    induction n with
    | zero => intro _; exact ⟨fun _ => rfl, fun _ y hy => by cases hy⟩
    | succ n ih =>
      intro hn
      have e : s.take (n + 1) = s.take n ++ [s[n]] := List.take_succ_eq_append_getElem hn
      have hord : ordG cl (s.take n ++ [s[n]]) = true := by
        rw [← e]
        exact ord_prefix (b := s.drop (n + 1)) (by rw [List.take_append_drop]; exact hs)
      rw [e, fromG_snoc]
      exact inv_step hp h1 h2 hord (ih (by omega))
  have := (key s.length (Nat.le_refl _)).1 k
  rw [List.take_length] at this
  exact this
theorem comp_same (hp : ∀ c, 0 ≤ cl c) (h1 : ∀ S c, (two S c).2 = true → o (two S c).1 = o S ++ o c) (h2 : ∀ y, cl y ≠ 0 → ∀ x ∈ o y, cl x = cl y) (s : List Int) (hs : ordG cl s = true) :
    putG cl ((compG cl two s).flatMap o) = putG cl (s.flatMap o) := put_of_proj hp (comp_proj hp h1 h2 s hs)
end Go.Proofs.Ytldjcogjimgnbaa
