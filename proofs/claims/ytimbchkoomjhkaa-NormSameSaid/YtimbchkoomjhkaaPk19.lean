/- Several texts in one: Hang7, Cmp10a, CmpOk, Cmp10b. -/
import Derived.Test.YtimbchkoomjhkaaPk18
import Derived.Test.YtimbchkoomjhkaaPk17
import Derived.Test.YtimbchkoomjhkaaPk3
import Derived.Carry
import Derived.Maps.Keyed
import Derived.Maps.OwnSet
import Derived.DeepKeys4
import Derived.DataBytes
import Derived.Test.YtimbchkoomjhkaaPk12
/-! Hang7 -/
namespace Go.Proofs.Ytimbchkoomjhkaa
open Go.RowKit

def amongB (c lo n : Int) : Bool := decide (lo ≤ c ∧ c < lo + n)
theorem amongOk (c lo n : Int) (w : World) (l0 : 0 ≤ lo) (l1 : lo ≤ 1000000) (n0 : 0 ≤ n) (n1 : n ≤ 1000000) : Calls Try.prog 51 #[.int .i64 c, .int .i64 lo, .int .i64 n] w fun e w' => e = .returned (.bool (amongB c lo n)) ∧ w = w' := by
  by_cases h0 : lo ≤ c
  · by_cases h1 : c < lo + n
    · have HR := hid (show amongB c lo n = true from decide_eq_true ⟨h0, h1⟩)
      go_enter Try.func51, Try.ntmps51
      go_wp2
      go_ret
      exact ⟨by rw [HR.out]; rfl, rfl⟩
    · have HR := hid (show amongB c lo n = false from decide_eq_false (fun h => h1 h.2))
      go_enter Try.func51, Try.ntmps51
      go_wp2
      go_ret
      exact ⟨by rw [HR.out]; rfl, rfl⟩
  · have HR := hid (show amongB c lo n = false from decide_eq_false (fun h => h0 h.1))
    go_enter Try.func51, Try.ntmps51
    go_wp2
    go_ret
    exact ⟨by rw [HR.out]; rfl, rfl⟩
def openB (c : Int) : Bool := decide (44032 ≤ c ∧ c ≤ 55203 ∧ (c - 44032) % 28 = 0)
theorem isOpenOk (c : Int) (w : World) : Calls Try.prog 102 #[.int .i64 c] w fun e w' => e = .returned (.bool (openB c)) ∧ w = w' := by
  by_cases hin : 44032 ≤ c ∧ c ≤ 55203
  · obtain ⟨n, rfl⟩ : ∃ n : Nat, c = 44032 + (n : Int) := ⟨(c - 44032).toNat, by omega⟩
    have hn : n ≤ 11171 := by omega
    have e1 : (44032 + (n : Int)) - 44032 = (n : Int) := by omega
    have HB := hid (show amongB (44032 + (n : Int)) 44032 11172 = true from decide_eq_true ⟨by omega, by omega⟩)
    obtain ⟨z, hz⟩ : ∃ z, z = ((n : Int) % 28 == 0) := ⟨_, rfl⟩
    have HR := hid (show z = openB (44032 + (n : Int)) by
      rw [hz, Bool.eq_iff_iff]
      unfold openB
      rw [decide_eq_true_iff, beq_iff_eq, e1]
      omega)
    replace hz := hz.symm
    clear hin
    go_enter Try.func102, Try.ntmps102
    go_wp2_with (go_at_call 51; refine (amongOk (44032 + (n : Int)) 44032 11172 _ (by decide) (by decide) (by decide) (by decide)).mono ?_; rw [HB.out]; rintro e w1 ⟨rfl, rfl⟩)
    go_ret
    exact ⟨by rw [HR.out]; rfl, rfl⟩
  · have HB := hid (show amongB c 44032 11172 = false from decide_eq_false (by omega))
    have HR := hid (show openB c = false from decide_eq_false (fun h => hin ⟨h.1, h.2.1⟩))
    clear hin
    go_enter Try.func102, Try.ntmps102
    go_wp2_with (go_at_call 51; refine (amongOk c 44032 11172 _ (by decide) (by decide) (by decide) (by decide)).mono ?_; rw [HB.out]; rintro e w1 ⟨rfl, rfl⟩)
    go_ret
    exact ⟨by rw [HR.out]; rfl, rfl⟩

theorem div_div21 (n : Nat) : (n : Int) / 28 / 21 = (n : Int) / 588 := by omega
theorem div_mod21 (n : Nat) : (n : Int) / 28 % 21 = (n : Int) % 588 / 28 := by omega

set_option maxHeartbeats 2000000 in
theorem splitO (c : Int) (w : World) (hc : I64n c) : Calls Try.prog 24 #[.int .i64 c] w fun e w' => ∃ x, e = .returned x ∧ Own .i64 3 w.heap.size w' x (splitS c) ∧ Below w.heap.size w w' := by
  obtain ⟨h0, h1⟩ := hc
  by_cases hin : 44032 ≤ c ∧ c ≤ 55203
  · obtain ⟨n, rfl⟩ : ∃ n : Nat, c = 44032 + (n : Int) := ⟨(c - 44032).toNat, by omega⟩
    have hn : n ≤ 11171 := by omega
    have HR := hid (splitS_in hn)
    have e1 : (44032 + (n : Int)) - 44032 = (n : Int) := by omega
    have HB := hid (show amongB (44032 + (n : Int)) 44032 11172 = true from decide_eq_true ⟨by omega, by omega⟩)
    clear hin
    by_cases hm : n % 28 = 0
    · have hm2 : (n : Int) % 28 = 0 := by omega
      have HP := hid (show splitS (44032 + (n : Int)) = [4352 + (n : Int) / 28 / 21, 4449 + (n : Int) / 28 % 21] by rw [HR.out, div_div21, div_mod21]; unfold partsN; rw [if_pos hm])
      clear hm
      go_enter Try.func24, Try.ntmps24
      go_wp2_with (go_at_call 51; refine (amongOk (44032 + (n : Int)) 44032 11172 _ (by decide) (by decide) (by decide) (by decide)).mono ?_; rw [HB.out]; rintro e w1 ⟨rfl, rfl⟩)
      go_ret
      exact ⟨_, rfl, by rw [HP.out]; exact lit_own rfl (Nat.le_refl _) rfl rfl (by simp), by (repeat (first | exact Below.refl _ _ | exact below_drewN _ | refine Below.drew ?_ | refine Below.alloc ?_ (by simp) _ | refine Below.setCell ?_ (by simp) _ | refine below_drewN' ?_ _))⟩
    · have hm2 : ¬ (n : Int) % 28 = 0 := by omega
      have HP := hid (show splitS (44032 + (n : Int)) = [4352 + (n : Int) / 28 / 21, 4449 + (n : Int) / 28 % 21] ++ [4519 + (n : Int) % 28] by rw [HR.out, div_div21, div_mod21]; unfold partsN; rw [if_neg hm]; rfl)
      clear hm
      go_enter Try.func24, Try.ntmps24
      go_wp2_with (first
        | (go_at_call 51; refine (amongOk (44032 + (n : Int)) 44032 11172 _ (by decide) (by decide) (by decide) (by decide)).mono ?_; rw [HB.out]; rintro e w1 ⟨rfl, rfl⟩)
        | (at_builtin; go_loud (refine wpList_app _ rfl _ _ 22 rfl .i64 w.heap.size 3 8 Try.underlying22 Try.infoI64 _ [4352 + (n : Int) / 28 / 21, 4449 + (n : Int) / 28 % 21] [4519 + (n : Int) % 28] rfl (Own.below (lit_own rfl (Nat.le_refl _) rfl rfl (by simp)) (by (repeat (first | exact Below.refl _ _ | exact below_drewN _ | refine Below.drew ?_ | refine Below.alloc ?_ (by simp) _ | refine Below.setCell ?_ (by simp) _ | refine below_drewN' ?_ _)))) _ rfl (one_sl (by first | simp | rfl)) (by unfold maxLen; first | omega | (simp; omega) | simp) (by first | omega | (simp; omega) | simp) (by first | omega | (simp; omega) | simp) ?_); intro v5 w5 ho5 hg5 hb5 hn5; clear hn5 hg5))
      go_ret
      exact ⟨_, rfl, by rw [HP.out]; exact ho5, Below.trans (show Below w.heap.size w _ from by (repeat (first | exact Below.refl _ _ | exact below_drewN _ | refine Below.drew ?_ | refine Below.alloc ?_ (by simp) _ | refine Below.setCell ?_ (by simp) _ | refine below_drewN' ?_ _))) hb5⟩
  · have HR := hid (splitS_out hin)
    have HB := hid (show amongB c 44032 11172 = false from decide_eq_false (by omega))
    clear hin
    go_enter Try.func24, Try.ntmps24
    go_wp2_with (go_at_call 51; refine (amongOk c 44032 11172 _ (by decide) (by decide) (by decide) (by decide)).mono ?_; rw [HB.out]; rintro e w1 ⟨rfl, rfl⟩)
    go_ret
    exact ⟨_, rfl, by rw [HR.out]; exact Own.nil _ _ _ _, Below.refl _ _⟩

theorem splitOk : SplitOk := fun c w hc => (splitO c w hc).mono fun e w' h => by
  obtain ⟨x, hx, ho, hb⟩ := h
  exact ⟨x, hx, ho.sl, hb⟩

set_option maxHeartbeats 2000000 in
theorem joinOk : JoinOk := by
  intro a b w ha hb
  obtain ⟨h0, h00⟩ := ha
  obtain ⟨h1, h11⟩ := hb
  obtain ⟨R, hR⟩ : ∃ R, R = joinS a b := ⟨_, rfl⟩
  rw [← hR]
  by_cases hA : 4352 ≤ a ∧ a ≤ 4370
  · obtain ⟨a0, a1⟩ := hA
    have H1 := hid (show amongB a 4352 19 = true from decide_eq_true ⟨a0, by omega⟩)
    by_cases hB : 4449 ≤ b ∧ b ≤ 4469
    · obtain ⟨b0, b1⟩ := hB
      have H2 := hid (show amongB b 4449 21 = true from decide_eq_true ⟨b0, by omega⟩)
      have HR := hid (show R = (44032 + ((a - 4352) * 21 + b - 4449) * 28, true) by rw [hR]; unfold joinS; rw [if_pos ⟨a0, a1, b0, b1⟩]; congr 1; omega)
      clear hR
      go_enter Try.func95, Try.ntmps95
      go_wp2_with (first
        | (go_at_call 51; with_reducible refine (amongOk a 4352 19 _ (by decide) (by decide) (by decide) (by decide)).mono ?_; rw [H1.out]; rintro e w1 ⟨rfl, rfl⟩)
        | (go_at_call 51; with_reducible refine (amongOk b 4449 21 _ (by decide) (by decide) (by decide) (by decide)).mono ?_; rw [H2.out]; rintro e w1 ⟨rfl, rfl⟩))
      go_ret2
      exact ⟨by rw [HR.out]; rfl, Below.refl _ _⟩
    · have H2 := hid (show amongB b 4449 21 = false from decide_eq_false (by omega))
      have H3 := hid (show openB a = false from decide_eq_false (by omega))
      have HR := hid (show R = (0, false) by rw [hR]; unfold joinS; rw [if_neg (by omega), if_neg (by omega)])
      clear hR hB
      go_enter Try.func95, Try.ntmps95
      go_wp2_with (first
        | (go_at_call 51; with_reducible refine (amongOk a 4352 19 _ (by decide) (by decide) (by decide) (by decide)).mono ?_; rw [H1.out]; rintro e w1 ⟨rfl, rfl⟩)
        | (go_at_call 51; with_reducible refine (amongOk b 4449 21 _ (by decide) (by decide) (by decide) (by decide)).mono ?_; rw [H2.out]; rintro e w1 ⟨rfl, rfl⟩)
        | (go_at_call 102; refine (isOpenOk a _).mono ?_; rw [H3.out]; rintro e w1 ⟨rfl, rfl⟩))
      go_ret2
      exact ⟨by rw [HR.out]; rfl, Below.refl _ _⟩
  · have H1 := hid (show amongB a 4352 19 = false from decide_eq_false (by omega))
    by_cases hC : 44032 ≤ a ∧ a ≤ 55203 ∧ (a - 44032) % 28 = 0
    · have H3 := hid (show openB a = true from decide_eq_true hC)
      by_cases hB : 4520 ≤ b ∧ b ≤ 4546
      · obtain ⟨b0, b1⟩ := hB
        obtain ⟨c0, c1, c2⟩ := hC
        have H4 := hid (show amongB b 4520 27 = true from decide_eq_true ⟨b0, by omega⟩)
        have HR := hid (show R = (a + b - 4519, true) by rw [hR]; unfold joinS; rw [if_neg (by omega), if_pos ⟨c0, c1, c2, b0, b1⟩])
        clear hR hA
        go_enter Try.func95, Try.ntmps95
        go_wp2_with (first
          | (go_at_call 51; with_reducible refine (amongOk a 4352 19 _ (by decide) (by decide) (by decide) (by decide)).mono ?_; rw [H1.out]; rintro e w1 ⟨rfl, rfl⟩)
          | (go_at_call 51; with_reducible refine (amongOk b 4520 27 _ (by decide) (by decide) (by decide) (by decide)).mono ?_; rw [H4.out]; rintro e w1 ⟨rfl, rfl⟩)
          | (go_at_call 102; refine (isOpenOk a _).mono ?_; rw [H3.out]; rintro e w1 ⟨rfl, rfl⟩))
        go_ret2
        exact ⟨by rw [HR.out]; rfl, Below.refl _ _⟩
      · have H4 := hid (show amongB b 4520 27 = false from decide_eq_false (by omega))
        have HR := hid (show R = (0, false) by rw [hR]; unfold joinS; rw [if_neg (by omega), if_neg (by omega)])
        clear hR hB hA hC
        go_enter Try.func95, Try.ntmps95
        go_wp2_with (first
          | (go_at_call 51; with_reducible refine (amongOk a 4352 19 _ (by decide) (by decide) (by decide) (by decide)).mono ?_; rw [H1.out]; rintro e w1 ⟨rfl, rfl⟩)
          | (go_at_call 51; with_reducible refine (amongOk b 4520 27 _ (by decide) (by decide) (by decide) (by decide)).mono ?_; rw [H4.out]; rintro e w1 ⟨rfl, rfl⟩)
          | (go_at_call 102; refine (isOpenOk a _).mono ?_; rw [H3.out]; rintro e w1 ⟨rfl, rfl⟩))
        go_ret2
        exact ⟨by rw [HR.out]; rfl, Below.refl _ _⟩
    · have H3 := hid (show openB a = false from decide_eq_false hC)
      have HR := hid (show R = (0, false) by rw [hR]; unfold joinS; rw [if_neg (by omega), if_neg (by omega)])
      clear hR hA hC
      go_enter Try.func95, Try.ntmps95
      go_wp2_with (first
        | (go_at_call 51; with_reducible refine (amongOk a 4352 19 _ (by decide) (by decide) (by decide) (by decide)).mono ?_; rw [H1.out]; rintro e w1 ⟨rfl, rfl⟩)
        | (go_at_call 102; refine (isOpenOk a _).mono ?_; rw [H3.out]; rintro e w1 ⟨rfl, rfl⟩))
      go_ret2
      exact ⟨by rw [HR.out]; rfl, Below.refl _ _⟩
end Go.Proofs.Ytimbchkoomjhkaa

/-! Cmp10a -/
namespace Go.Proofs.Ytimbchkoomjhkaa
open Go.RowKit Go.Maps

/-- a pair of numbers as a key -/
def pv (a b : Int) : Value := .agg #[.int .i64 a, .int .i64 b]
/-- an answer: whether it was asked for, the composite, whether there is one -/
def av (k : Bool) (c : Int) (o : Bool) : Value := .agg #[.bool k, .int .i64 c, .bool o]
theorem pv_inj {a b c d : Int} (h : pv a b = pv c d) : a = c ∧ b = d := by
  unfold pv at h
  simp only [Value.agg.injEq, Array.mk.injEq, List.cons.injEq, Value.int.injEq, true_and, and_true] at h
  exact h
theorem pr_under : Try.prog.underlying 68 = some (.array 2 3) := by kernel_rfl
theorem pr_cells : Try.prog.cellsOf 68 = 2 := by kernel_rfl
theorem pr_int : Try.prog.cellsOf 3 = 1 := by kernel_rfl
theorem pr_keyType : Try.prog.keyType 68 = true := by kernel_rfl
theorem wf_i64k {c : Int} (h : inI c = true) : (Lit.int .i64 c).wf = true := by
  unfold inI at h
  rw [decide_eq_true_iff] at h
  simpa [Lit.wf, IntKind.min, IntKind.max, IntKind.signed, IntKind.bits] using h
theorem types_more10 : ∃ m, Try.prog.types.size = m + 1 := ⟨Try.prog.types.size - 1, by
  have : 0 < Try.prog.types.size := of_decide_eq_true (by kernel_rfl)
  omega⟩
theorem pr_key {a b : Int} (ha : inI a = true) (hb : inI b = true) : keyOf Try.prog 68 (pv a b) = some (.string (keyBytes [Lit.int .i64 a, Lit.int .i64 b])) := by
  obtain ⟨m, hm⟩ := types_more10
  unfold keyOf pv
  simp only [pr_under]
  rw [if_pos (by simp [pr_keyType, Value.formed, pr_cells]), hm]
  unfold Program.keyLits
  simp only [pr_under, Value.cells]
  rw [if_pos (by rw [pr_cells]; rfl)]
  have key := mapM_some_of_forall (f := fun i => Try.prog.keyLits (m + 1) 3 (((#[Value.int .i64 a, Value.int .i64 b]).toList.drop (i * Try.prog.cellsOf 3)).take (Try.prog.cellsOf 3))) (g := fun i => [Lit.int .i64 (if i = 0 then a else b)]) (List.range 2) (fun i hi => by
    have hi := List.mem_range.1 hi
    have e : ((#[Value.int .i64 a, Value.int .i64 b]).toList.drop (i * Try.prog.cellsOf 3)).take (Try.prog.cellsOf 3) = [.int .i64 (if i = 0 then a else b)] := by
      rw [pr_int, Nat.mul_one]
      rcases (show i = 0 ∨ i = 1 by omega) with rfl | rfl <;> rfl
    rw [e]
    unfold Program.keyLits
    simp only [Try.underlying3]
    rw [if_pos ⟨trivial, by split; exact wf_i64k ha; exact wf_i64k hb⟩])
  rw [key]
  rfl
theorem Try.laidOut10 : laidOutB Try.prog = true := by kernel_rfl
theorem pr_row : (68 : TypeId) < Try.prog.types.size := of_decide_eq_true (by kernel_rfl)
theorem pr_wide : (match Try.prog.underlying 68 with | some (.array _ _) | some (.struct _) => true | _ => false) = true := by kernel_rfl
set_option maxRecDepth 100000 in
theorem pr_law : Keyed Try.prog 68 := Keyed.of_law (deep_law_laid Try.laidOut10 (m := 2) (by omega) pr_row (by kernel_rfl) pr_wide)

/-- an entry tells what two numbers compose, if it was asked for -/
def AnsE (e : MapEntry) : Prop := ∃ a b k c o, e.key = pv a b ∧ inI a = true ∧ inI b = true ∧ e.val = av k c o ∧ (k = true → (c, o) = twoS a b)
/-- the map in block M: each entry tells what is so; all pairs of L are among the keys -/
def MapC (L : List Rg) (M : Nat) (w : World) : Prop := ∃ es clock, w.heap[M]? = some (.map es clock) ∧ (∀ e ∈ es.toList, AnsE e) ∧ ∀ r ∈ L, ∃ e ∈ es.toList, e.key = pv r.t r.v
theorem MapC.lt {L : List Rg} {M : Nat} {w : World} (h : MapC L M w) : M < w.heap.size := by
  obtain ⟨es, clock, hm, -⟩ := h
  exact (Array.getElem?_eq_some_iff.1 hm).1
theorem MapC.below {L : List Rg} {M : Nat} {w w' : World} (h : MapC L M w) (hb : Below w.heap.size w w') : MapC L M w' := by
  have hl := h.lt
  obtain ⟨es, clock, hm, h1, h2⟩ := h
  exact ⟨es, clock, (hb.block M hl).trans hm, h1, h2⟩
theorem MapC.same {L : List Rg} {M : Nat} {w w' : World} (h : MapC L M w) (hb : w'.heap[M]? = w.heap[M]?) : MapC L M w' := by
  obtain ⟨es, clock, hm, h1, h2⟩ := h
  exact ⟨es, clock, hb.trans hm, h1, h2⟩
theorem MapC.nil {M clock : Nat} {w : World} (h : w.heap[M]? = some (.map #[] clock)) : MapC [] M w := ⟨_, _, h, fun e he => by simp at he, fun r hr => by cases hr⟩
theorem MapC.nobox {L : List Rg} {M B : Nat} {w : World} {t : TypeId} {cs : List Value} (h : MapC L M w) (hb : Box t cs B w) : B ≠ M := fun e => by
  obtain ⟨es, clock, hm, -⟩ := h
  subst e
  unfold Box at hb
  rw [hm] at hb
  cases hb
theorem AnsE.key {e : MapEntry} (h : AnsE e) : ∃ l, keyOf Try.prog 68 e.key = some l := by
  obtain ⟨a, b, k, c, o, hk, ha, hb, -⟩ := h
  rw [hk]
  exact ⟨_, pr_key ha hb⟩
theorem zero_ans (w : World) : (zeroValue 108).run Try.prog w = .ok (av false 0 false) w := by kernel_rfl

/-- what an answer that was found says -/
def AnsOk (a b : Int) (k : Bool) (c : Int) (o : Bool) : Prop := k = true → (c, o) = twoS a b
theorem store_pair {L : List Rg} {M : Nat} {W : World} (h : MapC L M W) {a b : Int} (ha : inI a = true) (hb : inI b = true) {k o : Bool} {c : Int} (hc : AnsOk a b k c o) :
    ∃ W', (Instr.mapUpdate 94 (.map (some M)) (pv a b) (av k c o)).run Try.prog W = .ok () W' ∧ W.grownBy W' (some M) ∧ ∀ f, MapC (L ++ [⟨f, a, b⟩]) M W' := by
  obtain ⟨es, clock, hM, h1, h2⟩ := h
  have hkey := pr_key ha hb
  have ht := Try.underlying94
  have grown : ∀ o, W.grownBy (ChangeMaps.setBlock W M o) (some M) := fun o => ⟨rfl, rfl, rfl, by simp [ChangeMaps.setBlock], fun i _ hi => ChangeMaps.heap_setBlock_other hM _ (fun e => hi (by rw [e]))⟩
  rcases pr_law.find W hkey es.toList (fun x hx => (h1 x hx).key) with ⟨hf, hn⟩ | ⟨j, e0, hf, he, hk⟩
  · refine ⟨_, by simp [Instr.mapUpdate, run_underlying ht, MapKept.run_getObj_map hM, pr_law.check W false hkey, hf, MapKept.run_setObj_map _ hM, Result.andThen]; rfl, grown _, fun f => ⟨_, _, ChangeMaps.heap_setBlock_same hM _, fun e he => ?_, fun r hr => ?_⟩⟩
    · simp only [Array.toList_push, List.mem_append, List.mem_singleton] at he
      rcases he with he | rfl
      · exact h1 e he
      · exact ⟨a, b, k, c, o, rfl, ha, hb, rfl, hc⟩
    · simp only [Array.toList_push, List.mem_append, List.mem_singleton]
      rcases List.mem_append.1 hr with hr | hr
      · obtain ⟨e, hem, hek⟩ := h2 r hr
        exact ⟨e, .inl hem, hek⟩
      · rw [List.mem_singleton] at hr
        subst hr
        exact ⟨_, .inr rfl, rfl⟩
  · have hj : es[j]? = some e0 := by simpa using he
    have hst := pr_law.stays W hkey
    refine ⟨_, by simp [Instr.mapUpdate, run_underlying ht, MapKept.run_getObj_map hM, pr_law.check W false hkey, hf, hj, hk, hst, MapKept.run_setObj_map _ hM, Result.andThen]; rfl, grown _, fun f => ⟨_, _, ChangeMaps.heap_setBlock_same hM _, ?_, ?_⟩⟩
    · intro e hem
      rw [Array.toList_modify, ChangeMaps.modify_eq_set _ _ _ _ he] at hem
      rcases List.mem_or_eq_of_mem_set hem with hem | rfl
      · exact h1 e hem
      · exact ⟨a, b, k, c, o, rfl, ha, hb, rfl, hc⟩
    · intro r hr
      rw [Array.toList_modify, ChangeMaps.modify_eq_set _ _ _ _ he]
      have hnew : ∀ z : MapEntry, z.key = pv a b → ∀ x ∈ es.toList, x.key = pv r.t r.v → ∃ e ∈ es.toList.set j z, e.key = pv r.t r.v := fun z hz x hx hxk => by
        obtain ⟨i, hi, hix⟩ := List.getElem_of_mem hx
        by_cases hij : j = i
        · subst hij
          refine ⟨z, List.mem_of_getElem? (i := j) (List.getElem?_set_self hi), ?_⟩
          have : x = e0 := by rw [← hix]; rw [List.getElem?_eq_getElem hi] at he; exact Option.some.inj he
          rw [← hxk, this, hk, hz]
        · exact ⟨x, List.mem_of_getElem? (i := i) (by rw [List.getElem?_set_ne hij, List.getElem?_eq_getElem hi, hix]), hxk⟩
      rcases List.mem_append.1 hr with hr | hr
      · obtain ⟨e, hem, hek⟩ := h2 r hr
        exact hnew _ rfl e hem hek
      · rw [List.mem_singleton] at hr
        subst hr
        exact hnew _ rfl e0 (List.mem_of_getElem? he) hk

/-- what is not in the tables is made by letters alone -/
theorem two_off {a b : Int} (h : ∀ r ∈ tabCanon, ¬ (r.t = a ∧ r.v = b)) : twoS a b = joinS a b := by
  unfold twoS
  cases hj : (joinS a b).2 with
  | true => rw [if_pos rfl, ← hj]
  | false =>
    rw [if_neg (by simp)]
    have hp : ∀ l : List Rg, (∀ r ∈ l, (r.t == a && r.v == b) = false) → fndS (fun r => r.t == a && r.v == b) l = (noRg, false) := fun l => by
      induction l with
      | nil => intro _; rfl
      | cons r l ih =>
        intro hl
        unfold fndS
        rw [hl r (by simp)]
        exact ih fun x hx => hl x (by simp [hx])
    have hz : joinS a b = (0, false) := by
      unfold joinS at hj ⊢
      split
      · rename_i h1; rw [if_pos h1] at hj; cases hj
      · split
        · rename_i h1 h2; rw [if_neg h1, if_pos h2] at hj; cases hj
        · rfl
    unfold pairS
    rw [hp tabPair (fun r hr => by
      have hm : r ∈ tabCanon := (List.mem_filter.1 hr).1
      have := h r hm
      simp only [Bool.and_eq_false_imp, beq_iff_eq, beq_eq_false_iff_ne]
      exact fun e1 e2 => this ⟨e1, e2⟩), hz]
    rfl
end Go.Proofs.Ytimbchkoomjhkaa

/-! CmpOk -/
namespace Go.Proofs.Ytimbchkoomjhkaa
open Go.RowKit

def CTwoOk : Prop := ∀ (a b : Int) (w : World), I64n a → I64n b → Calls Try.prog 103 #[.int .i64 a, .int .i64 b] w fun e w' => e = .returned (.tuple #[.int .i64 (twoS a b).1, .bool (twoS a b).2]) ∧ Below w.heap.size w w'
def CAllOk : Prop := ∀ (v : Value) (s : List Int) (w : World), Sl .i64 w v s → s.all inI = true → s.length ≤ 1000000 → Calls Try.prog 35 #[v] w fun e w' => ∃ x, e = .returned x ∧ Own .i64 3 w.heap.size w' x (compG classS twoS s) ∧ Below w.heap.size w w'
theorem comp_inI {s : List Int} (hi : s.all inI = true) : (compG classS twoS s).all inI = true :=
  List.all_eq_true.2 (comp_all (cl := classS) (R := fun x => inI x = true) (fun _ _ h => two_inI h) s (fun x hx => List.all_eq_true.1 hi x hx))
theorem put_mem {cl : Int → Int} {s : List Int} {x : Int} (h : x ∈ putG cl s) : x ∈ s := by
  have key : ∀ (s acc : List Int), x ∈ putFrom cl s acc → x ∈ s ∨ x ∈ acc := fun s => by
    induction s with
    | nil => intro acc h; exact .inr h
    | cons y s ih =>
      intro acc h
      rcases ih _ h with h | h
      · exact .inl (List.mem_cons_of_mem _ h)
      · have k2 : ∀ acc : List Int, x ∈ insG cl y acc → x = y ∨ x ∈ acc := fun acc => by
          induction acc with
          | nil => intro h; exact .inl (by simpa [insG] using h)
          | cons z r ih2 =>
            intro h
            rw [insG] at h
            split at h
            · rcases List.mem_cons.1 h with h | h
              · exact .inr (by simp [h])
              · rcases ih2 h with h | h
                · exact .inl h
                · exact .inr (List.mem_cons_of_mem _ h)
            · rcases List.mem_cons.1 h with h | h
              · exact .inl h
              · exact .inr h
        rcases k2 acc h with h | h
        · exact .inl (by simp [h])
        · exact .inr h
  unfold putG at h
  rw [List.mem_reverse] at h
  rcases key s [] h with h | h
  · exact h
  · cases h
theorem put_inI {cl : Int → Int} {s : List Int} (hi : s.all inI = true) : (putG cl s).all inI = true :=
  List.all_eq_true.2 fun x hx => List.all_eq_true.1 hi x (put_mem hx)
set_option maxRecDepth 1000000 in
theorem w10_one : compG classS twoS [65, 803, 770] = [7852] := by decide +kernel
set_option maxRecDepth 1000000 in
theorem w10_two : compG classS twoS [4352, 4449, 4520] = [44033] := by decide +kernel
set_option maxRecDepth 1000000 in
theorem w10_three : compG classS twoS [65, 795, 803, 768] = [7840, 795, 768] := by decide +kernel

end Go.Proofs.Ytimbchkoomjhkaa

/-! Cmp10b -/
namespace Go.Proofs.Ytimbchkoomjhkaa
open Go.RowKit Go.Shelf

theorem inI_I64c {c : Int} (h : inI c = true) : I64n c := by
  unfold inI at h
  rw [decide_eq_true_iff] at h
  exact h
set_option maxHeartbeats 2000000 in
theorem compTwo : CTwoOk := by
  intro a b w ha hb
  obtain ⟨R, hR⟩ : ∃ x, x = joinS a b := ⟨_, rfl⟩
  have HJ := hid (fun w => joinOk a b w ha hb)
  rw [← hR] at HJ
  obtain ⟨T, hT⟩ : ∃ x, x = twoS a b := ⟨_, rfl⟩
  rw [← hT]
  obtain ⟨c, k⟩ := R
  cases k with
  | true =>
    have HR := hid (show T = (c, true) by rw [hT]; unfold twoS; rw [← hR]; rfl)
    clear hR hT
    go_enter Try.func103, Try.ntmps103
    go_wp2_with (go_at_call 95; refine (HJ.out _).mono ?_; rintro e w1 ⟨rfl, hb1⟩; have HB1 := hid hb1; clear hb1)
    go_ret2
    exact ⟨by rw [HR.out]; rfl, HB1.out⟩
  | false =>
    have HR := hid (show T = pairS a b by rw [hT]; unfold twoS; rw [← hR]; rfl)
    have HP := hid (fun w => ucdPair a b w)
    obtain ⟨P, hP⟩ : ∃ x, x = pairS a b := ⟨_, rfl⟩
    rw [← hP] at HR HP
    obtain ⟨p, o⟩ := P
    clear hR hT hP
    go_enter Try.func103, Try.ntmps103
    go_wp2_with (first
      | (go_at_call 95; refine (HJ.out _).mono ?_; rintro e w1 ⟨rfl, hb1⟩; have HB1 := hid hb1; clear hb1)
      | (go_at_call 23; refine (HP.out _).mono ?_; rintro e w2 ⟨rfl, hb2⟩; have HB2 := hid (HB1.out.trans (hb2.mono HB1.out.size)); clear hb2))
    go_ret2
    exact ⟨by rw [HR.out]; rfl, HB2.out⟩

theorem loadAns {a b c : Value} {B : Nat} {w : World} (h : Box 108 [a, b, c] B w) : (loadVar 108 ⟨B, 0, none⟩).run Try.prog w = .ok (.agg #[a, b, c]) w := by
  have k0 := h.cell 0
  have k1 := h.cell 1
  have k2 := h.cell 2
  simp only [List.getElem?_cons_zero, List.getElem?_cons_succ] at k0 k1 k2
  simp [go_sem, k0, k1, k2]
/-- three cells of a block, written over -/
def put3 (W : World) (B : Nat) (x y z : Value) : World := ((W.setCell ⟨B, 0, none⟩ x).setCell ⟨B, 1, none⟩ y).setCell ⟨B, 2, none⟩ z
theorem Box.put3 {t : TypeId} {a b c : Value} {B : Nat} {w : World} (h : Box t [a, b, c] B w) (x y z : Value) : Box t [x, y, z] B (put3 w B x y z) := ((h.set 0 x).set 1 y).set 2 z
theorem below_put3 {base B : Nat} {w0 w : World} (h : Below base w0 w) (hB : base ≤ B) (x y z : Value) : Below base w0 (put3 w B x y z) := ((h.setCell hB _).setCell hB _).setCell hB _

set_option maxHeartbeats 2000000 in
theorem cmpAsk (a b : Int) (w : World) (ha : inI a = true) (hb : inI b = true) : Calls Try.prog 96 #[.int .i64 a, .int .i64 b] w fun e w' => e = .returned (av true (twoS a b).1 (twoS a b).2) ∧ Below w.heap.size w w' := by
  have HT := hid (fun w => compTwo a b w (inI_I64c ha) (inI_I64c hb))
  obtain ⟨⟨c, o⟩, hT⟩ : ∃ x, x = twoS a b := ⟨_, rfl⟩
  rw [← hT] at HT ⊢
  have HX := hid (Box.made w 108 [.bool false, .int .i64 0, .bool false])
  clear hT ha hb
  go_enter Try.func96, Try.ntmps96
  go_wp2_with (go_at_call 103; refine (HT.out _).mono ?_; rintro e w1 ⟨rfl, hb1⟩; have HX1 := hid (HX.out.below hb1 HX.out.lt); have x0 := HX1.out.cell 0; have x1 := HX1.out.cell 1; have x2 := HX1.out.cell 2; have z0 := HX1.out.ice 0; have z1 := HX1.out.ice 1; have z2 := HX1.out.ice 2; simp only [List.getElem?_cons_zero, List.getElem?_cons_succ] at x0 x1 x2; have HB1 := hid (Below.trans (show Below w.heap.size w _ from by (repeat (first | exact Below.refl _ _ | exact below_drewN _ | refine Below.drew ?_ | refine Below.alloc ?_ (by simp) _ | refine Below.setCell ?_ (by simp) _ | refine below_drewN' ?_ _))) (hb1.mono (by simp))); clear hb1)
  refine bodyPost_ret (results_one rfl rfl (loadAns (HX1.out.put3 _ _ _))) rfl ⟨rfl, below_put3 HB1.out (Nat.le_refl _) _ _ _⟩

/-- storing at a pair of numbers -/
theorem wpList_storeP {w : World} {ops : Array Oper} {rest : List Oper} {o : Oper} {ac : Act} {Q : Exit → Act → World → Prop} (hg : o.guard = none) (m x y : Operand) (hop : o.op = Op.mapUpdate 94 m x y)
    (M : Nat) (a b : Int) (k : Bool) (c : Int) (ok : Bool) {L : List Rg} (h : MapC L M w) (ha : inI a = true) (hb : inI b = true) (hc : AnsOk a b k c ok) (hm : ac.eval m = .map (some M)) (hx : ac.eval x = pv a b) (hy : ac.eval y = av k c ok)
    (hK : ∀ w', w.grownBy w' (some M) → (∀ f, MapC (L ++ [⟨f, a, b⟩]) M w') → wpList Try.prog ops Q rest (ac.put o.dst undef) w') : wpList Try.prog ops Q (o :: rest) ac w := by
  obtain ⟨w', hrun, hg', hM'⟩ := store_pair h ha hb hc
  refine wpList_plain hg fun K' hK' => ?_
  unfold Oper.wp
  simp [execOp, hop, hm, hx, hy, hrun, Result.andThen]
  exact hK' _ _ (hK w' hg' hM')
/-- whether a pair is among the keys -/
def InMap (a b : Int) (M : Nat) (w : World) : Prop := ∃ es clock, w.heap[M]? = some (.map es clock) ∧ ∃ e ∈ es.toList, e.key = pv a b
theorem wpList_missP {w w0 : World} {ops : Array Oper} {rest : List Oper} {o : Oper} {ac : Act} {Q : Exit → Act → World → Prop} (hg : o.guard = none) (m x : Operand) (hop : o.op = Op.lookup 94 m x true)
    (M : Nat) (a b : Int) {L : List Rg} (h : MapC L M w0) (hb0 : Below w0.heap.size w0 w) (ha : inI a = true) (hb : inI b = true) (hn : ¬ InMap a b M w0) (hm : ac.eval m = .map (some M)) (hx : ac.eval x = pv a b)
    (hK : wpList Try.prog ops Q rest (ac.put o.dst (.tuple #[.agg #[.bool false, .int .i64 0, .bool false], .bool false])) w) : wpList Try.prog ops Q (o :: rest) ac w := by
  have hlt := h.lt
  obtain ⟨es, clock, hM, h1, h2⟩ := h
  have hM' : w.heap[M]? = some (.map es clock) := (hb0.block M hlt).trans hM
  have hkey := pr_key ha hb
  have ht := Try.underlying94
  rcases pr_law.find w hkey es.toList (fun x hx => (h1 x hx).key) with ⟨hf, -⟩ | ⟨j, e0, hf, he, hk⟩
  · have hrun : (Instr.lookup 94 (.map (some M)) (pv a b) true).run Try.prog w = .ok (.tuple #[av false 0 false, .bool false]) w := by simp [Instr.lookup, run_underlying ht, MapKept.run_getObj_map hM', pr_law.check w _ hkey, hf, Result.andThen]; rfl
    refine wpList_plain hg fun K' hK' => ?_
    unfold Oper.wp
    simp [execOp, hop, hm, hx, hrun, Result.andThen]
    exact hK' _ _ hK
  · exact absurd ⟨es, clock, hM, e0, List.mem_of_getElem? he, hk⟩ hn
theorem wpList_hitP {w w0 : World} {ops : Array Oper} {rest : List Oper} {o : Oper} {ac : Act} {Q : Exit → Act → World → Prop} (hg : o.guard = none) (m x : Operand) (hop : o.op = Op.lookup 94 m x true)
    (M : Nat) (a b : Int) {L : List Rg} (h : MapC L M w0) (hb0 : Below w0.heap.size w0 w) (ha : inI a = true) (hb : inI b = true) (hn : InMap a b M w0) (hm : ac.eval m = .map (some M)) (hx : ac.eval x = pv a b)
    (hK : ∀ k c ok, AnsOk a b k c ok → wpList Try.prog ops Q rest (ac.put o.dst (.tuple #[.agg #[.bool k, .int .i64 c, .bool ok], .bool true])) w) : wpList Try.prog ops Q (o :: rest) ac w := by
  have hlt := h.lt
  obtain ⟨es, clock, hM, h1, h2⟩ := h
  have hM' : w.heap[M]? = some (.map es clock) := (hb0.block M hlt).trans hM
  have hkey := pr_key ha hb
  have ht := Try.underlying94
  rcases pr_law.find w hkey es.toList (fun x hx => (h1 x hx).key) with ⟨hf, hno⟩ | ⟨j, e0, hf, he, hk⟩
  · obtain ⟨es', clock', hM2, e, hem, hek⟩ := hn
    rw [hM] at hM2
    cases hM2
    exact absurd hek (hno e hem)
  · obtain ⟨a', b', k, c, ok, hk', -, -, hv, hc⟩ := h1 e0 (List.mem_of_getElem? he)
    obtain ⟨rfl, rfl⟩ := pv_inj (hk'.symm.trans hk)
    have hrun : (Instr.lookup 94 (.map (some M)) (pv a' b') true).run Try.prog w = .ok (.tuple #[av k c ok, .bool true]) w := by
      rw [← hv]
      simp [Instr.lookup, run_underlying ht, MapKept.run_getObj_map hM', pr_law.check w _ hkey, hf, Result.andThen]
    refine wpList_plain hg fun K' hK' => ?_
    unfold Oper.wp
    simp [execOp, hop, hm, hx, hrun, Result.andThen]
    exact hK' _ _ (hK k c ok hc)
theorem MapC.miss {L : List Rg} {a b : Int} {M : Nat} {w : World} (h : MapC L M w) (hn : ¬ InMap a b M w) : ∀ r ∈ L, ¬ (r.t = a ∧ r.v = b) := fun r hr hrr => by
  obtain ⟨es, clock, hM, -, h2⟩ := h
  obtain ⟨e, hem, hek⟩ := h2 r hr
  rw [hrr.1, hrr.2] at hek
  exact hn ⟨es, clock, hM, e, hem, hek⟩
end Go.Proofs.Ytimbchkoomjhkaa
