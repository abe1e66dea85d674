/- Several texts in one: ApiRg, Num, Ucd1, U8Spec, U8Math, RefSc, Ref6a. -/
import Derived.Test.YtobicndpkojgiaaPk1
import Derived.Great.Walk
/-! ApiRg -/
namespace Go.Proofs.Ytobicndpkojgiaa
open Go.RowKit
open Go.Great (wp_anyFrame)

/-- a block laid as the cells of ranges reads as these ranges -/
theorem sg_cells {w : World} {l : List Rg} {e : TypeId} {n k : Nat} {cs : Array Value} (hn : n = w.heap.size) (hk : k = l.length) (hc : cs.toList = l.flatMap fun r => [.int .i64 r.f, .int .i64 r.t, .int .i64 r.v]) (hm : l.length ≤ 1000000) :
    Sg (w.alloc (.cells cs e)) (.slice (some ⟨n, 0, none⟩) k k) l := by
  subst hn hk
  refine ⟨_, l.length, rfl, Nat.le_refl _, by unfold maxLen; omega, .inr ⟨w.heap.size, 0, rfl, fun _ => by simp, fun i hi => ?_⟩⟩
  have key : ∀ (l : List Rg) (i : Nat), i < l.length → ∀ j, j < 3 → (l.flatMap fun r : Rg => [Value.int .i64 r.f, .int .i64 r.t, .int .i64 r.v])[i * 3 + j]? = [Value.int .i64 (l.getD i noRg).f, .int .i64 (l.getD i noRg).t, .int .i64 (l.getD i noRg).v][j]? := fun l => by
    induction l with
    | nil => intro i hi; simp at hi
    | cons r l ih =>
      intro i hi j hj
      match i with
      | 0 =>
        match j, hj with
        | 0, _ => rfl
        | 1, _ => rfl
        | 2, _ => rfl
      | i + 1 =>
        have := ih i (by simpa using hi) j hj
        rw [List.flatMap_cons, show (i + 1) * 3 + j = i * 3 + j + 1 + 1 + 1 by omega]
        simpa using this
  have hat : ∀ j, (w.alloc (.cells cs e)).cell? ⟨w.heap.size, j, none⟩ = cs.toList[j]? := fun j => by
    rw [cell_of_row _ w.heap.size j cs e (0, 0) (heap_alloc_new w _)]
    simp
  have k0 := key l i hi 0 (by omega)
  have k1 := key l i hi 1 (by omega)
  have k2 := key l i hi 2 (by omega)
  simp only [Nat.zero_add]
  refine ⟨?_, ?_, ?_⟩
  · rw [hat, hc]; exact k0
  · rw [hat, hc]; exact k1
  · rw [hat, hc]; exact k2

/-- a table's numbers as the library's law on such literals takes them -/
def tri (l : List Rg) : List Lib.Rg := l.map fun r => (r.f.toNat, r.t.toNat, r.v.toNat)

theorem tri_cells : ∀ {l : List Rg}, (l.all fun r => decide (0 ≤ r.f) && (decide (0 ≤ r.t) && decide (0 ≤ r.v))) = true → (Lib.rgCells .i64 (tri l).toArray).toList = l.flatMap fun r => [.int .i64 r.f, .int .i64 r.t, .int .i64 r.v]
  | [], _ => rfl
  | r :: l, h => by
    simp only [List.all_cons, Bool.and_eq_true, decide_eq_true_eq] at h
    have ih := tri_cells (l := l) h.2
    simp only [Lib.rgCells, tri, List.map_cons, List.flatMap_cons, Lib.cells3, Int.toNat_of_nonneg h.1.1, Int.toNat_of_nonneg h.1.2.1, Int.toNat_of_nonneg h.1.2.2] at ih ⊢
    rw [ih]

theorem apiClasses (w : World) : Calls Try.prog 56 #[] w fun e w' => ∃ v, e = .returned v ∧ Sg w' v tabClasses ∧ Below w.heap.size w w' := by
  refine calls_of_wp Try.func56 rfl ?_
  refine wp_anyFrame 28 (by as_aux_lemma => kernel_rfl) rfl fun a0 hs0 hd0 => ?_
  apply wp_seq_k; intro K0 hK0
  apply wp_region_lit
  refine Go.Great.wpList_readTo rfl (some 0) rfl (.slice none 0 0) rfl ?_
  apply wpList_nil
  refine hK0 _ _ ?_
  clear hK0 K0
  refine wp_anyFrame 28 (by simp only [Act.size_put, hs0]) (by simp only [Act.defers_put', hd0]) fun a1 hs1 hd1 => ?_
  apply wp_seq_k; intro K1 hK1
  apply wp_region_lit
  refine Go.Great.wpList_splitAt 26 (Go.Great.rgOps 119 "tables.go:80" .i64 1 (tri tabClasses)) (by as_aux_lemma => kernel_rfl) ?_
  refine Go.Great.wpList_rgs 119 "tables.go:80" .i64 (fun _ _ _ => by as_aux_lemma => kernel_rfl) _ 1 _ (by rw [hs1]; exact Nat.le_of_ble_eq_true (by as_aux_lemma => kernel_rfl)) fun b hb hbd hev _ => ?_
  refine Go.Great.wpList_buildRgs rfl 99 119 _ .i64 (tri tabClasses).toArray rfl 1 w.heap.size rfl (some 27) rfl (by as_aux_lemma => kernel_rfl) (by as_aux_lemma => kernel_rfl) (by as_aux_lemma => kernel_rfl) (by decide) (by decide) (by as_aux_lemma => kernel_rfl) hev ?_
  refine Go.Great.wpList_readTo rfl (some 0) rfl (.slice (some ⟨w.heap.size, 0, none⟩) 26 26) ?_ ?_
  · have := Act.eval_put_same b 27 (.slice (some ⟨w.heap.size, 0, none⟩) 26 26) (by rw [hb, hs1]; omega)
    exact congrArg (fun v => Result.ok (Next.value v) _) this
  apply wpList_nil
  refine hK1 _ _ ?_
  refine wp_ret (bodyPost_ret (results_tmp rfl _ _ _) (by simp only [Act.defers_put', hbd, hd1]) ⟨_, rfl, ?_, by (repeat (first | exact Below.refl _ _ | exact below_drewN _ | refine Below.drew ?_ | refine Below.alloc ?_ (by simp) _ | refine Below.setCell ?_ (by simp) _ | refine below_drewN' ?_ _))⟩)
  have := Act.eval_put_same (b.put (some 27) (.slice (some ⟨w.heap.size, 0, none⟩) 26 26)) 0 (.slice (some ⟨w.heap.size, 0, none⟩) 26 26) (by rw [Act.size_put, hb, hs1]; omega)
  rw [show ∀ a : Act, a.tmps.getD 0 undef = a.eval (.tmp 0) from fun _ => rfl]
  exact (congrArg (fun v => Sg _ v tabClasses) this).mpr (sg_cells rfl (by as_aux_lemma => kernel_rfl) (tri_cells (by decide)) (by decide))

end Go.Proofs.Ytobicndpkojgiaa

/-! Num -/
namespace Go.Proofs.Ytobicndpkojgiaa

def inI (c : Int) : Bool := decide (-9223372036854775808 ≤ c ∧ c ≤ 9223372036854775807)
theorem inI_of {c : Int} (h : -9223372036854775808 ≤ c ∧ c ≤ 9223372036854775807) : inI c = true := decide_eq_true h
/-- is it a scalar? -/
def scalarB (c : Int) : Bool := decide (0 ≤ c ∧ c ≤ 1114111 ∧ (c < 55296 ∨ 57343 < c))
theorem scalar_t {c : Int} (h : 0 ≤ c ∧ c ≤ 1114111 ∧ (c < 55296 ∨ 57343 < c)) : scalarB c = true := decide_eq_true h
theorem scalar_f {c : Int} (h : ¬ (0 ≤ c ∧ c ≤ 1114111 ∧ (c < 55296 ∨ 57343 < c))) : scalarB c = false := decide_eq_false h
theorem scalar_inI {c : Int} (h : scalarB c = true) : inI c = true := by
  unfold scalarB at h
  unfold inI
  rw [decide_eq_true_iff]
  have h := of_decide_eq_true h
  omega
def inB (c lo hi : Int) : Bool := decide (lo ≤ c ∧ c ≤ hi)
end Go.Proofs.Ytobicndpkojgiaa

/-! Ucd1 -/
namespace Go.Proofs.Ytobicndpkojgiaa
open Go.RowKit

def classS (c : Int) : Int := if scalarB c then lookS tabClasses c else 0
def hasS (l : List Rg) (c : Int) : Bool := scalarB c && lookS l c != 0
theorem classS_t {c : Int} (h : scalarB c = true) : lookS tabClasses c = classS c := by unfold classS; rw [h]; rfl
theorem classS_f {c : Int} (h : scalarB c = false) : 0 = classS c := by unfold classS; rw [h]; rfl
theorem hasS_t {l : List Rg} {c : Int} (h : scalarB c = true) : (lookS l c != 0) = hasS l c := by unfold hasS; rw [h]; rfl
theorem hasS_f {l : List Rg} {c : Int} (h : scalarB c = false) : false = hasS l c := by unfold hasS; rw [h]; rfl

set_option maxHeartbeats 1000000 in
theorem ucdScalar (c : Int) (w : World) : Calls Try.prog 76 #[.int .i64 c] w fun e w' => e = .returned (.bool (scalarB c)) ∧ w = w' := by
  by_cases h0 : 0 ≤ c
  · by_cases h1 : c ≤ 1114111
    · by_cases h2 : c < 55296
      · have HR := hid (scalar_t ⟨h0, h1, .inl h2⟩)
        go_enter Try.func76, Try.ntmps76
        go_wp2
        go_ret
        exact ⟨by rw [HR.out]; rfl, rfl⟩
      · by_cases h3 : 57343 < c
        · have HR := hid (scalar_t ⟨h0, h1, .inr h3⟩)
          go_enter Try.func76, Try.ntmps76
          go_wp2
          go_ret
          exact ⟨by rw [HR.out]; rfl, rfl⟩
        · have HR := hid (scalar_f (c := c) (fun h => by omega))
          go_enter Try.func76, Try.ntmps76
          go_wp2
          go_ret
          exact ⟨by rw [HR.out]; rfl, rfl⟩
    · have HR := hid (scalar_f (c := c) (fun h => by omega))
      go_enter Try.func76, Try.ntmps76
      go_wp2
      go_ret
      exact ⟨by rw [HR.out]; rfl, rfl⟩
  · have HR := hid (scalar_f (c := c) (fun h => by omega))
    go_enter Try.func76, Try.ntmps76
    go_wp2
    go_ret
    exact ⟨by rw [HR.out]; rfl, rfl⟩

end Go.Proofs.Ytobicndpkojgiaa

/-! U8Spec -/
namespace Go.Proofs.Ytobicndpkojgiaa

def u8enc (c : Int) : List Int :=
  if c < 128 then [c] else if c < 2048 then [192 + c / 64, 128 + c % 64]
  else if c < 65536 then [224 + c / 4096, 128 + c / 64 % 64, 128 + c % 64]
  else [240 + c / 262144, 128 + c / 4096 % 64, 128 + c / 64 % 64, 128 + c % 64]
/-- how many bytes begin with this one (0: none does), and what it gives -/
def lead (c : Int) : Nat × Int :=
  if 192 ≤ c ∧ c < 224 then (2, c - 192) else if 224 ≤ c ∧ c < 240 then (3, c - 224) else if 240 ≤ c ∧ c < 248 then (4, c - 240) else (0, c)
/-- the bytes that go on -/
def cont : Int → List Int → Option Int
  | c, [] => some c
  | c, b :: r => if b < 128 ∨ 192 ≤ b then none else cont (64 * c + b - 128) r
def u8one : List Int → Int × Nat
  | [] => (0, 0)
  | c0 :: r => if c0 < 128 then (c0, 1) else
      if (lead c0).1 = 0 ∨ r.length + 1 < (lead c0).1 then (0, 0) else
        match cont (lead c0).2 (r.take ((lead c0).1 - 1)) with
        | none => (0, 0)
        | some c => if scalarB c = true ∧ (u8enc c).length = (lead c0).1 then (c, (lead c0).1) else (0, 0)
theorem u8enc_len (c : Int) : 1 ≤ (u8enc c).length ∧ (u8enc c).length ≤ 4 := by
  unfold u8enc
  split
  · simp
  split
  · simp
  split <;> simp
theorem u8enc_u8 {c : Int} (h : scalarB c = true) : U8 (u8enc c) := by
  unfold scalarB at h
  have h := of_decide_eq_true h
  unfold u8enc
  split
  · intro x hx; simp at hx; omega
  split
  · intro x hx; simp at hx; omega
  split <;> (intro x hx; simp at hx; omega)
theorem one_enc {c : Int} (h : scalarB c = true) (r : List Int) : u8one (u8enc c ++ r) = (c, (u8enc c).length) := by
  have hs := h
  unfold scalarB at hs
  have hs := of_decide_eq_true hs
  by_cases h1 : c < 128
  · simp [u8enc, h1, u8one]
  by_cases h2 : c < 2048
  · have e : u8enc c = [192 + c / 64, 128 + c % 64] := by simp [u8enc, h1, h2]
    have l : lead (192 + c / 64) = (2, c / 64) := by unfold lead; rw [if_pos (by omega)]; congr 1; omega
    rw [e]
    simp only [List.cons_append, List.nil_append, u8one, l]
    rw [if_neg (by omega), if_neg (by simp)]
    have ec : cont (c / 64) (((128 + c % 64) :: r).take (2 - 1)) = some c := by
      simp only [Nat.reduceSub, List.take_succ_cons, List.take_zero, cont]
      rw [if_neg (by omega)]
      congr 1
      omega
    rw [ec]
    simp [h, e]
  by_cases h3 : c < 65536
  · have e : u8enc c = [224 + c / 4096, 128 + c / 64 % 64, 128 + c % 64] := by simp [u8enc, h1, h2, h3]
    have l : lead (224 + c / 4096) = (3, c / 4096) := by unfold lead; rw [if_neg (by omega), if_pos (by omega)]; congr 1; omega
    rw [e]
    simp only [List.cons_append, List.nil_append, u8one, l]
    rw [if_neg (by omega), if_neg (by simp)]
    have ec : cont (c / 4096) (((128 + c / 64 % 64) :: (128 + c % 64) :: r).take (3 - 1)) = some c := by
      simp only [Nat.reduceSub, List.take_succ_cons, List.take_zero, cont]
      rw [if_neg (by omega), if_neg (by omega)]
      congr 1
      omega
    rw [ec]
    simp [h, e]
  · have e : u8enc c = [240 + c / 262144, 128 + c / 4096 % 64, 128 + c / 64 % 64, 128 + c % 64] := by simp [u8enc, h1, h2, h3]
    have l : lead (240 + c / 262144) = (4, c / 262144) := by unfold lead; rw [if_neg (by omega), if_neg (by omega), if_pos (by omega)]; congr 1; omega
    rw [e]
    simp only [List.cons_append, List.nil_append, u8one, l]
    rw [if_neg (by omega), if_neg (by simp)]
    have ec : cont (c / 262144) (((128 + c / 4096 % 64) :: (128 + c / 64 % 64) :: (128 + c % 64) :: r).take (4 - 1)) = some c := by
      simp only [Nat.reduceSub, List.take_succ_cons, List.take_zero, cont]
      rw [if_neg (by omega), if_neg (by omega), if_neg (by omega)]
      congr 1
      omega
    rw [ec]
    simp [h, e]
theorem enc_lens (c : Int) : ((u8enc c).length = 1 ↔ c < 128) ∧ ((u8enc c).length = 2 ↔ 128 ≤ c ∧ c < 2048) ∧ ((u8enc c).length = 3 ↔ 2048 ≤ c ∧ c < 65536) ∧ ((u8enc c).length = 4 ↔ 65536 ≤ c) := by
  unfold u8enc
  split
  · simp; omega
  split
  · simp; omega
  split <;> (simp; omega)
theorem enc_one {b : List Int} {c : Int} {n : Nat} (hu : U8 b) (h : u8one b = (c, n)) (hn : n ≠ 0) : scalarB c = true ∧ u8enc c = b.take n ∧ n ≤ b.length := by
  cases b with
  | nil => simp [u8one] at h; omega
  | cons c0 r =>
    have h0 := hu c0 (List.mem_cons_self ..)
    rw [u8one] at h
    by_cases h1 : c0 < 128
    · rw [if_pos h1] at h
      simp only [Prod.mk.injEq] at h
      obtain ⟨rfl, rfl⟩ := h
      exact ⟨scalar_t (by omega), by simp [u8enc, h1], by simp⟩
    rw [if_neg h1] at h
    by_cases hl : (lead c0).1 = 0 ∨ r.length + 1 < (lead c0).1
    · rw [if_pos hl] at h
      simp at h
      omega
    rw [if_neg hl] at h
    cases hc : cont (lead c0).2 (r.take ((lead c0).1 - 1)) with
    | none => rw [hc] at h; simp at h; omega
    | some x =>
      rw [hc] at h
      simp only at h
      by_cases hx : scalarB x = true ∧ (u8enc x).length = (lead c0).1
      · rw [if_pos hx] at h
        simp only [Prod.mk.injEq] at h
        obtain ⟨rfl, rfl⟩ := h
        refine ⟨hx.1, ?_, by simp only [List.length_cons]; omega⟩
        have hln := enc_lens x
        by_cases k2 : 192 ≤ c0 ∧ c0 < 224
        · have l : lead c0 = (2, c0 - 192) := by unfold lead; rw [if_pos k2]
          rw [l] at hc hx hl ⊢
          simp only at hc hx hl ⊢
          match r, hl, hc with
          | b1 :: r, _, hc =>
            simp only [Nat.reduceSub, List.take_succ_cons, List.take_zero, cont] at hc
            split at hc
            · cases hc
            · simp only [Option.some.injEq] at hc
              have hr := hln.2.1.1 hx.2
              simp only [List.take_succ_cons, List.take_zero]
              unfold u8enc
              rw [if_neg (by omega), if_pos (by omega)]
              congr 1
              · omega
              · congr 1; omega
          | [], hl, _ => simp at hl
        by_cases k3 : 224 ≤ c0 ∧ c0 < 240
        · have l : lead c0 = (3, c0 - 224) := by unfold lead; rw [if_neg k2, if_pos k3]
          rw [l] at hc hx hl ⊢
          simp only at hc hx hl ⊢
          match r, hl, hc with
          | b1 :: b2 :: r, _, hc =>
            simp only [Nat.reduceSub, List.take_succ_cons, List.take_zero, cont] at hc
            split at hc
            · cases hc
            split at hc
            · cases hc
            · simp only [Option.some.injEq] at hc
              have hr := hln.2.2.1.1 hx.2
              simp only [List.take_succ_cons, List.take_zero]
              unfold u8enc
              rw [if_neg (by omega), if_neg (by omega), if_pos (by omega)]
              congr 1
              · omega
              · congr 1
                · omega
                · congr 1; omega
          | [b1], hl, _ => simp at hl
          | [], hl, _ => simp at hl
        by_cases k4 : 240 ≤ c0 ∧ c0 < 248
        · have l : lead c0 = (4, c0 - 240) := by unfold lead; rw [if_neg k2, if_neg k3, if_pos k4]
          rw [l] at hc hx hl ⊢
          simp only at hc hx hl ⊢
          match r, hl, hc with
          | b1 :: b2 :: b3 :: r, _, hc =>
            simp only [Nat.reduceSub, List.take_succ_cons, List.take_zero, cont] at hc
            split at hc
            · cases hc
            split at hc
            · cases hc
            split at hc
            · cases hc
            · simp only [Option.some.injEq] at hc
              have hr := hln.2.2.2.1 hx.2
              simp only [List.take_succ_cons, List.take_zero]
              unfold u8enc
              rw [if_neg (by omega), if_neg (by omega), if_neg (by omega)]
              congr 1
              · omega
              · congr 1
                · omega
                · congr 1
                  · omega
                  · congr 1; omega
          | [b1, b2], hl, _ => simp at hl
          | [b1], hl, _ => simp at hl
          | [], hl, _ => simp at hl
        · have l : (lead c0).1 = 0 := by unfold lead; rw [if_neg k2, if_neg k3, if_neg k4]
          rw [l] at hl
          simp at hl
      · rw [if_neg hx] at h
        simp at h
        omega
end Go.Proofs.Ytobicndpkojgiaa

/-! U8Math -/
namespace Go.Proofs.Ytobicndpkojgiaa

/-- the bytes, or where the first number stands that is no scalar -/
def putU : List Int → List Int ⊕ Nat
  | [] => .inl []
  | c :: s => if scalarB c then (match putU s with | .inl x => .inl (u8enc c ++ x) | .inr k => .inr (k + 1)) else .inr 0
/-- the scalars, or where none begins -/
def getF : Nat → List Int → List Int ⊕ Nat
  | _, [] => .inl []
  | 0, _ :: _ => .inr 0
  | n + 1, c :: r => if (u8one (c :: r)).2 = 0 then .inr 0 else
      (match getF n ((c :: r).drop (u8one (c :: r)).2) with | .inl s => .inl ((u8one (c :: r)).1 :: s) | .inr k => .inr ((u8one (c :: r)).2 + k))
def getU (b : List Int) : List Int ⊕ Nat := getF b.length b
theorem getF_more : ∀ (n m : Nat) (b : List Int), b.length ≤ n → b.length ≤ m → getF n b = getF m b
  | n, m, [], _, _ => by cases n <;> cases m <;> rfl
  | 0, _, c :: r, h, _ => by simp at h
  | _ + 1, 0, c :: r, _, h => by simp at h
  | n + 1, m + 1, c :: r, h1, h2 => by
    simp only [getF]
    by_cases h0 : (u8one (c :: r)).2 = 0
    · rw [if_pos h0, if_pos h0]
    · rw [if_neg h0, if_neg h0, getF_more n m _ (by simp at h1 ⊢; omega) (by simp at h2 ⊢; omega)]
/-- one step -/
theorem getU_step {b : List Int} (hb : b ≠ []) : getU b = if (u8one b).2 = 0 then .inr 0 else (match getU (b.drop (u8one b).2) with | .inl s => .inl ((u8one b).1 :: s) | .inr k => .inr ((u8one b).2 + k)) := by
  cases b with
  | nil => exact absurd rfl hb
  | cons c r =>
    unfold getU
    simp only [List.length_cons, getF]
    by_cases h0 : (u8one (c :: r)).2 = 0
    · rw [if_pos h0, if_pos h0]
    · rw [if_neg h0, if_neg h0, getF_more r.length _ _ (by simp; omega) (Nat.le_refl _)]
theorem getU_nil : getU [] = .inl [] := rfl
/-- what stands behind a text's bytes is read as if it stood alone -/
theorem get_app : ∀ {a x : List Int} (c : List Int), putU a = .inl x → getU (x ++ c) = match getU c with | .inl t => .inl (a ++ t) | .inr k => .inr (x.length + k)
  | [], x, c, h => by
    simp only [putU, Sum.inl.injEq] at h
    subst h
    simp only [List.nil_append]
    cases getU c <;> simp
  | a :: s, x, c, h => by
    simp only [putU] at h
    by_cases hs : scalarB a = true
    · rw [if_pos hs] at h
      cases hp : putU s with
      | inr k => rw [hp] at h; cases h
      | inl y =>
        rw [hp] at h
        simp only [Sum.inl.injEq] at h
        subst h
        have hl := u8enc_len a
        have h1 := one_enc hs (y ++ c)
        have hne : u8enc a ++ (y ++ c) ≠ [] := fun e => by
          have := congrArg List.length e
          rw [List.length_append, List.length_nil] at this
          omega
        rw [List.append_assoc, getU_step hne, h1]
        simp only
        rw [if_neg (show ¬ (u8enc a).length = 0 by omega), List.drop_left, get_app c hp]
        cases getU c with
        | inl t => simp
        | inr k => simp only [List.length_append, Sum.inr.injEq]; omega
    · rw [if_neg hs] at h
      cases h
theorem put_get {a x : List Int} (h : putU a = .inl x) : getU x = .inl a := by
  have := get_app [] h
  rw [List.append_nil, getU_nil] at this
  simpa using this
theorem put_u8 : ∀ {a x : List Int}, putU a = .inl x → U8 x
  | [], x, h => by
    simp only [putU, Sum.inl.injEq] at h
    subst h
    intro y hy
    cases hy
  | a :: s, x, h => by
    simp only [putU] at h
    by_cases hs : scalarB a = true
    · rw [if_pos hs] at h
      cases hp : putU s with
      | inr k => rw [hp] at h; cases h
      | inl y =>
        rw [hp] at h
        simp only [Sum.inl.injEq] at h
        subst h
        intro z hz
        rcases List.mem_append.1 hz with hz | hz
        · exact u8enc_u8 hs z hz
        · exact put_u8 hp z hz
    · rw [if_neg hs] at h
      cases h
theorem put_len : ∀ {a x : List Int}, putU a = .inl x → a.length ≤ x.length ∧ x.length ≤ 4 * a.length
  | [], x, h => by
    simp only [putU, Sum.inl.injEq] at h
    subst h
    simp
  | a :: s, x, h => by
    simp only [putU] at h
    by_cases hs : scalarB a = true
    · rw [if_pos hs] at h
      cases hp : putU s with
      | inr k => rw [hp] at h; cases h
      | inl y =>
        rw [hp] at h
        simp only [Sum.inl.injEq] at h
        subst h
        have h1 := put_len hp
        have h2 := u8enc_len a
        simp only [List.length_append, List.length_cons]
        omega
    · rw [if_neg hs] at h
      cases h
theorem put_bad : ∀ {a : List Int} {k : Nat}, putU a = .inr k → k < a.length ∧ scalarB (a.getD k 0) = false
  | [], k, h => by simp [putU] at h
  | a :: s, k, h => by
    simp only [putU] at h
    by_cases hs : scalarB a = true
    · rw [if_pos hs] at h
      cases hp : putU s with
      | inl y => rw [hp] at h; cases h
      | inr j =>
        rw [hp] at h
        simp only [Sum.inr.injEq] at h
        subst h
        have := put_bad hp
        simp only [List.length_cons]
        exact ⟨by omega, by simpa using this.2⟩
    · rw [if_neg hs] at h
      simp only [Sum.inr.injEq] at h
      subst h
      exact ⟨by simp, by simpa using hs⟩
theorem put_app : ∀ (a b : List Int), putU (a ++ b) = match putU a with | .inl x => (match putU b with | .inl y => .inl (x ++ y) | .inr k => .inr (a.length + k)) | .inr k => .inr k
  | [], b => by
    simp only [List.nil_append, putU]
    cases putU b <;> simp
  | a :: s, b => by
    simp only [List.cons_append, putU]
    by_cases hs : scalarB a = true
    · rw [if_pos hs, if_pos hs, put_app s b]
      cases putU s with
      | inr k => rfl
      | inl x =>
        cases putU b with
        | inl y => simp
        | inr k => simp only [List.length_cons, Sum.inr.injEq]; omega
    · rw [if_neg hs, if_neg hs]
theorem get_put : ∀ (n : Nat) {b s : List Int}, b.length ≤ n → U8 b → getU b = .inl s → putU s = .inl b
  | n, [], s, _, _, h => by
    rw [getU_nil] at h
    simp only [Sum.inl.injEq] at h
    subst h
    rfl
  | 0, c :: r, s, hn, _, _ => by simp at hn
  | n + 1, c :: r, s, hn, hu, h => by
    rw [getU_step (by simp)] at h
    by_cases h0 : (u8one (c :: r)).2 = 0
    · rw [if_pos h0] at h; cases h
    · rw [if_neg h0] at h
      obtain ⟨h1, h2, h3⟩ := enc_one hu (show u8one (c :: r) = ((u8one (c :: r)).1, (u8one (c :: r)).2) from rfl) h0
      cases hg : getU ((c :: r).drop (u8one (c :: r)).2) with
      | inr k => rw [hg] at h; cases h
      | inl t =>
        rw [hg] at h
        simp only [Sum.inl.injEq] at h
        subst h
        have ih := get_put n (by simp at hn ⊢; omega) (fun x hx => hu x (List.mem_of_mem_drop hx)) hg
        simp only [putU]
        rw [if_pos h1, ih, h2]
        simp only [List.take_append_drop]
theorem get_bad : ∀ (n : Nat) {b : List Int} {k : Nat}, b.length ≤ n → U8 b → getU b = .inr k → k < b.length
  | n, [], k, _, _, h => by rw [getU_nil] at h; cases h
  | 0, c :: r, k, hn, _, _ => by simp at hn
  | n + 1, c :: r, k, hn, hu, h => by
    rw [getU_step (by simp)] at h
    by_cases h0 : (u8one (c :: r)).2 = 0
    · rw [if_pos h0] at h
      simp only [Sum.inr.injEq] at h
      subst h
      simp
    · rw [if_neg h0] at h
      obtain ⟨-, -, h3⟩ := enc_one hu (show u8one (c :: r) = ((u8one (c :: r)).1, (u8one (c :: r)).2) from rfl) h0
      cases hg : getU ((c :: r).drop (u8one (c :: r)).2) with
      | inl t => rw [hg] at h; cases h
      | inr j =>
        rw [hg] at h
        simp only [Sum.inr.injEq] at h
        subst h
        have ih := get_bad n (by simp at hn ⊢; omega) (fun x hx => hu x (List.mem_of_mem_drop hx)) hg
        rw [List.length_drop] at ih
        omega
theorem get_len {b s : List Int} (hu : U8 b) (h : getU b = .inl s) : s.length ≤ b.length ∧ b.length ≤ 4 * s.length := put_len (get_put _ (Nat.le_refl _) hu h)
theorem put_scalars : ∀ {a x : List Int}, putU a = .inl x → ∀ c ∈ a, scalarB c = true
  | [], _, _, c, hc => by cases hc
  | a :: s, x, h, c, hc => by
    simp only [putU] at h
    by_cases hs : scalarB a = true
    · rw [if_pos hs] at h
      cases hp : putU s with
      | inr k => rw [hp] at h; cases h
      | inl y =>
        rcases List.mem_cons.1 hc with rfl | hc
        · exact hs
        · exact put_scalars hp c hc
    · rw [if_neg hs] at h
      cases h
theorem get_scalars {b s : List Int} (hu : U8 b) (h : getU b = .inl s) : ∀ c ∈ s, scalarB c = true := put_scalars (get_put _ (Nat.le_refl _) hu h)
/-- the three results -/
def outL : List Int ⊕ Nat → List Int
  | .inl x => x
  | .inr _ => []
def outAt : List Int ⊕ Nat → Nat
  | .inl _ => 0
  | .inr k => k
def outE (err : Int) : List Int ⊕ Nat → Int
  | .inl _ => 0
  | .inr _ => err
/-- what was got so far, and what is still to come -/
def goOn (t : List Int) (at_ : Nat) : List Int ⊕ Nat → List Int ⊕ Nat
  | .inl u => .inl (t ++ u)
  | .inr k => .inr (at_ + k)
end Go.Proofs.Ytobicndpkojgiaa

/-! RefSc -/
namespace Go.Proofs.Ytobicndpkojgiaa
open Go.RowKit

end Go.Proofs.Ytobicndpkojgiaa

/-! Ref6a -/
namespace Go.Proofs.Ytobicndpkojgiaa
open Go.RowKit

/-- no table gives a number that is no scalar a value, or any number one below 0 -/
def offT (l : List Rg) : Bool := l.all fun r => decide (0 ≤ r.f ∧ r.t ≤ 1114111 ∧ (r.t < 55296 ∨ 57343 < r.f) ∧ 0 < r.v)
theorem off_all : offT tabClasses = true ∧ offT tabAssigned = true ∧ offT tabNothing = true ∧ offT tabSpaces = true ∧ offT tabProhibited = true := by decide +kernel
theorem off_look {l : List Rg} (h : offT l = true) (c : Int) : lookS l c = 0 ∨ (scalarB c = true ∧ 0 < lookS l c) := by
  by_cases h0 : lookS l c = 0
  · exact .inl h0
  · obtain ⟨r, hr, h1, h2, h3⟩ := lookS_some h0
    have := List.all_eq_true.1 h r hr
    simp only [decide_eq_true_eq] at this
    exact .inr ⟨scalar_t ⟨by omega, by omega, by omega⟩, by rw [h3]; exact this.2.2.2⟩
theorem class_look (c : Int) : lookS tabClasses c = classS c := by
  rcases off_look off_all.1 c with h | h
  · unfold classS
    rw [h]
    split <;> rfl
  · exact classS_t h.1
theorem has_look {l : List Rg} (h : offT l = true) (c : Int) : (scalarB c && decide (0 < lookS l c)) = hasS l c := by
  unfold hasS
  rcases off_look h c with h | h
  · rw [h]; rfl
  · rw [h.1, decide_eq_true h.2]
    have : (lookS l c != 0) = true := by simp only [bne_iff_ne]; omega
    rw [this]

end Go.Proofs.Ytobicndpkojgiaa
