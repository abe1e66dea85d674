/- Several texts in one: ItRow, OrdPl, ItCmp, ItS1, ItS2, ItS3, ItS4. -/
import Derived.Test.YtidjjaginindoaaGreatPk30
import Derived.Test.YtidjjaginindoaaGreatPk10
import Derived.Test.YtidjjaginindoaaGreatPk4
import Derived.BigRegion
import Derived.Test.YtidjjaginindoaaGreatPk11
/-! ItRow -/
namespace Go.Proofs.YtidjjaginindoaaGreat
open Go.RowKit

def noIt : Int × Int := (0, 0)
/-- items at their places, as cells -/
def icv (it : List (Int × Int)) : List Nat → List Value
  | [] => []
  | k :: p => .int .i64 (it.getD k noIt).1 :: .int .i64 (it.getD k noIt).2 :: icv it p
theorem icv_len (it : List (Int × Int)) : ∀ p, (icv it p).length = p.length * 2
  | [] => rfl
  | k :: p => by rw [icv, List.length_cons, List.length_cons, icv_len it p, List.length_cons]; omega
theorem icv_app (it : List (Int × Int)) : ∀ p q, icv it (p ++ q) = icv it p ++ icv it q
  | [], _ => rfl
  | k :: p, q => by rw [List.cons_append, icv, icv, icv_app it p q]; rfl
theorem icv_at (it : List (Int × Int)) : ∀ {p : List Nat} {i : Nat}, i < p.length → (icv it p)[i * 2]? = some (.int .i64 (it.getD (p.getD i 0) noIt).1) ∧ (icv it p)[i * 2 + 1]? = some (.int .i64 (it.getD (p.getD i 0) noIt).2)
  | [], _, h => by simp at h
  | k :: p, 0, _ => by simp [icv]
  | k :: p, i + 1, h => by
    have ih := icv_at it (p := p) (i := i) (by simpa using h)
    rw [icv, show (i + 1) * 2 = i * 2 + 2 by omega]
    simpa using ih
theorem icv_set (it : List (Int × Int)) (k : Nat) : ∀ (p : List Nat) (i : Nat), ((icv it p).set (i * 2) (.int .i64 (it.getD k noIt).1)).set (i * 2 + 1) (.int .i64 (it.getD k noIt).2) = icv it (p.set i k)
  | [], _ => rfl
  | j :: p, 0 => by simp [icv]
  | j :: p, i + 1 => by
    have ih := icv_set it k p i
    rw [icv, show (i + 1) * 2 = i * 2 + 2 by omega, show i * 2 + 2 + 1 = i * 2 + 1 + 2 by omega, List.set_cons_succ, List.set_cons_succ, List.set_cons_succ, List.set_cons_succ, ih, List.set_cons_succ, icv]

/-- block g holds, from cell off on, the items it at the places p -/
def Rit0 (it : List (Int × Int)) (g off : Nat) (pre post : List Value) (p : List Nat) (w : World) : Prop := Box 119 (pre ++ icv it p ++ post) g w ∧ off = pre.length
/-- the same; all else is as it was in w -/
def Rit (it : List (Int × Int)) (g off : Nat) (pre post : List Value) (w : World) (p : List Nat) (wr : World) : Prop := Rit0 it g off pre post p wr ∧ w.grownBy wr (some g)

variable {it : List (Int × Int)} {g off : Nat} {pre post : List Value} {w wr : World} {p : List Nat}
theorem Rit.drewN (h : Rit it g off pre post w p wr) (n : Nat) : Rit it g off pre post w p (wr.drewN n) :=
  ⟨h.1, ⟨h.2.os, h.2.tape, h.2.output, h.2.size, h.2.block⟩⟩
theorem Rit.trans {w1 w2 : World} {q : List Nat} (h : Rit it g off pre post w p w1) (k : Rit it g off pre post w1 q w2) : Rit it g off pre post w q w2 :=
  ⟨k.1, ⟨k.2.os.trans h.2.os, k.2.tape.trans h.2.tape, k.2.output.trans h.2.output, Nat.le_trans h.2.size k.2.size, fun i hi hn => (k.2.block i (Nat.lt_of_lt_of_le hi h.2.size) hn).trans (h.2.block i hi hn)⟩⟩
theorem Rit.refl (h : Rit0 it g off pre post p w) : Rit it g off pre post w p w := ⟨h, rfl, rfl, rfl, Nat.le_refl _, fun _ _ _ => rfl⟩
theorem Rit0.below (h : Rit0 it g off pre post p w) (hb : Below w.heap.size w wr) : Rit0 it g off pre post p wr := ⟨h.1.below hb h.1.lt, h.2⟩
theorem Rit.below {w2 : World} (h : Rit it g off pre post w p wr) (hb : Below wr.heap.size wr w2) : Rit it g off pre post w p w2 :=
  h.trans ⟨h.1.below hb, ⟨hb.os, hb.tape, hb.output, hb.size, fun k hk _ => hb.block k hk⟩⟩
theorem Rit.swap (h : Rit it g off pre post w p wr) (i j : Nat) {xn xc yn yc : Int} (hi : i < p.length) (hj : j < p.length) (h1 : xn = (it.getD (p.getD i 0) noIt).1) (h2 : xc = (it.getD (p.getD i 0) noIt).2) (h3 : yn = (it.getD (p.getD j 0) noIt).1) (h4 : yc = (it.getD (p.getD j 0) noIt).2) :
    Rit it g off pre post w (sw p i j) ((((wr.setCell ⟨g, off + i * 2, none⟩ (.int .i64 yn)).setCell ⟨g, off + i * 2 + 1, none⟩ (.int .i64 yc)).setCell ⟨g, off + j * 2, none⟩ (.int .i64 xn)).setCell ⟨g, off + j * 2 + 1, none⟩ (.int .i64 xc)) := by
  subst h1 h2 h3 h4
  have key : ∀ (q : List Nat) (i k : Nat) (w2 : World), i < q.length → Rit it g off pre post w q w2 → Rit it g off pre post w (q.set i k) ((w2.setCell ⟨g, off + i * 2, none⟩ (.int .i64 (it.getD k noIt).1)).setCell ⟨g, off + i * 2 + 1, none⟩ (.int .i64 (it.getD k noIt).2)) := fun q i k w2 hi h => by
    refine ⟨⟨?_, h.1.2⟩, grow_set1 (grow_set1 h.2 _ _) _ _⟩
    have hb := (h.1.1.set (off + i * 2) (.int .i64 (it.getD k noIt).1)).set (off + i * 2 + 1) (.int .i64 (it.getD k noIt).2)
    have hl := icv_len it q
    have ho := h.1.2
    rw [List.append_assoc, List.set_append_right _ _ (by omega), List.set_append_right _ _ (by omega), List.set_append_left _ _ (by omega), List.set_append_left _ _ (by rw [List.length_set]; omega), show off + i * 2 - pre.length = i * 2 by omega, show off + i * 2 + 1 - pre.length = i * 2 + 1 by omega, icv_set, ← List.append_assoc] at hb
    exact hb
  have a := key p i (p.getD j 0) wr hi h
  exact key _ j (p.getD i 0) _ (by rw [List.length_set]; exact hj) a
theorem Rit.at (h : Rit it g off pre post w p wr) {i : Nat} (hi : i < p.length) : wr.cell? ⟨g, off + i * 2, none⟩ = some (.int .i64 (it.getD (p.getD i 0) noIt).1) ∧ wr.cell? ⟨g, off + i * 2 + 1, none⟩ = some (.int .i64 (it.getD (p.getD i 0) noIt).2) := by
  have hl := icv_len it p
  have ho := h.1.2
  have a := icv_at it hi
  refine ⟨?_, ?_⟩
  · rw [h.1.1.cell, List.append_assoc, List.getElem?_append_right (by omega), List.getElem?_append_left (by omega), show off + i * 2 - pre.length = i * 2 by omega]
    exact a.1
  · rw [h.1.1.cell, List.append_assoc, List.getElem?_append_right (by omega), List.getElem?_append_left (by omega), show off + i * 2 + 1 - pre.length = i * 2 + 1 by omega]
    exact a.2
theorem Rit.ice (h : Rit it g off pre post w p wr) (i : Nat) : wr.frozen? ⟨g, i, none⟩ = false := h.1.1.ice i

/-- the classes, as rows of one number each -/
def lcl (it : List (Int × Int)) : List (List Int) := it.map fun x => [x.2]
theorem lcl_len (it : List (Int × Int)) : (lcl it).length = it.length := by simp [lcl]
theorem lcl_at {x : Nat} (h : x < (lcl it).length) : rowAt (lcl it) x = [(it.getD x noIt).2] := by
  rw [lcl_len] at h
  simp [rowAt, lcl, List.getD_eq_getElem?_getD, List.getElem?_eq_getElem h]
def cmpI (a b : Int) : Int := if a < b then -1 else if b < a then 1 else 0
theorem cmp_I {x y : Nat} (hx : x < (lcl it).length) (hy : y < (lcl it).length) : cmpS (rowAt (lcl it) x) (rowAt (lcl it) y) = cmpI (it.getD x noIt).2 (it.getD y noIt).2 := by
  rw [lcl_at hx, lcl_at hy]
  rfl
theorem cmpI_lt {l : List (List Int)} (hl : l = lcl it) {x y : Nat} (h : x < y) (hy : y < l.length) {yc xc : Int} (h1 : yc = (it.getD y noIt).2) (h2 : xc = (it.getD x noIt).2) : cmpI yc xc < 0 ↔ ilt l y x := by
  subst hl h1 h2
  rw [← cmp_I hy (by omega)]
  exact cmp_lt h
theorem cmpI_ge {l : List (List Int)} (hl : l = lcl it) {x y : Nat} (h : x < y) (hy : y < l.length) {yc xc : Int} (h1 : yc = (it.getD y noIt).2) (h2 : xc = (it.getD x noIt).2) : ¬ cmpI yc xc < 0 ↔ ilt l x y := by
  subst hl h1 h2
  rw [← cmp_I hy (by omega)]
  exact cmp_ge h
end Go.Proofs.YtidjjaginindoaaGreat

/-! OrdPl -/
namespace Go.Proofs.YtidjjaginindoaaGreat

variable {cl : Int → Int}
/-- by classes ascending, and with the same numbers of each class in the same order: the same list -/
theorem uniq_class : ∀ (a b : List Int), a.Pairwise (fun x y => cl x ≤ cl y) → b.Pairwise (fun x y => cl x ≤ cl y) → (∀ k, a.filter (fun c => cl c == k) = b.filter (fun c => cl c == k)) → a = b
  | [], [], _, _, _ => rfl
  | [], y :: b, _, _, h => by
    have := h (cl y)
    simp at this
  | x :: a, [], _, _, h => by
    have := h (cl x)
    simp at this
  | x :: a, y :: b, ha, hb, h => by
    have hx : ∀ (x y : Int) (a b : List Int), (y :: b).Pairwise (fun x y => cl x ≤ cl y) → (x :: a).filter (fun c => cl c == cl x) = (y :: b).filter (fun c => cl c == cl x) → cl y ≤ cl x := fun x y a b hb h => by
      have hm : x ∈ (x :: a).filter (fun c => cl c == cl x) := by simp
      rw [h] at hm
      rcases List.mem_cons.1 ((List.mem_filter.1 hm).1) with rfl | hm
      · exact Int.le_refl _
      · exact (List.pairwise_cons.1 hb).1 x hm
    have e : cl x = cl y := Int.le_antisymm (hx y x b a ha (h (cl y)).symm) (hx x y a b hb (h (cl x)))
    have h0 := h (cl x)
    rw [List.filter_cons, List.filter_cons, if_pos (by simp), if_pos (by simp [e])] at h0
    injection h0 with h1 h2
    subst h1
    rw [uniq_class a b (List.pairwise_cons.1 ha).2 (List.pairwise_cons.1 hb).2 fun k => ?_]
    have := h k
    rw [List.filter_cons, List.filter_cons] at this
    by_cases hk : cl x == k
    · rw [if_pos hk, if_pos hk] at this
      injection this
    · rw [if_neg hk, if_neg hk] at this
      exact this
theorem ord_pair : ∀ {s : List Int}, (∀ c ∈ s, cl c ≠ 0) → ordG cl s = true → s.Pairwise (fun x y => cl x ≤ cl y)
  | [], _, _ => List.Pairwise.nil
  | [a], _, _ => List.pairwise_singleton _ _
  | a :: b :: r, hz, h => by
    rw [ordG, Bool.and_eq_true] at h
    have ih := ord_pair (s := b :: r) (fun c hc => hz c (List.mem_cons_of_mem _ hc)) h.2
    have hab : cl a ≤ cl b := by
      have h1 := h.1
      simp only [Bool.not_eq_true', decide_eq_false_iff_not] at h1
      have := hz b (by simp)
      omega
    refine List.pairwise_cons.2 ⟨fun c hc => ?_, ih⟩
    rcases List.mem_cons.1 hc with rfl | hc
    · exact hab
    · exact Int.le_trans hab ((List.pairwise_cons.1 ih).1 c hc)
theorem put_marks {s : List Int} (hz : ∀ c ∈ s, cl c ≠ 0) : ∀ c ∈ putO cl s, cl c ≠ 0 := fun c hc h0 => by
  have h := put_class (cl := cl) 0 s
  have hm : c ∈ (putO cl s).filter (fun c => cl c == 0) := List.mem_filter.2 ⟨hc, by simp [h0]⟩
  rw [h] at hm
  exact hz c ((List.mem_filter.1 hm).1) h0
theorem cmpI_le {a b : Int} (h : cmpI a b < 0 ∨ cmpI a b = 0) : a ≤ b := by
  unfold cmpI at h
  split at h
  · omega
  · split at h
    · omega
    · omega
/-- the places of a stable sort by class -/
theorem place_marks {it : List (Int × Int)} {R : List Int} {M : List Nat} (hit : it = R.map fun c => (c, cl c)) (h : IsPl (lcl it) R.length M) (hp : ∀ c, 0 ≤ cl c) (hz : ∀ c ∈ R, cl c ≠ 0) : M.map (fun k => R.getD k 0) = putO cl R := by
  have hl : (lcl it).length = R.length := by rw [lcl_len, hit, List.length_map]
  have hc : ∀ k, k < R.length → (it.getD k noIt).2 = cl (R.getD k 0) := fun k hk => by
    rw [hit]
    simp [List.getD_eq_getElem?_getD, List.getElem?_eq_getElem hk]
  have hle : ∀ i j, i ∈ M → j ∈ M → ilt (lcl it) i j → cl (R.getD i 0) ≤ cl (R.getD j 0) ∧ (cl (R.getD i 0) = cl (R.getD j 0) → i < j) := fun i j hi hj hij => by
    have hi := h.lt hi
    have hj := h.lt hj
    unfold ilt at hij
    rw [cmp_I (by omega) (by omega), hc i hi, hc j hj] at hij
    refine ⟨cmpI_le (by omega), fun e => ?_⟩
    rw [e] at hij
    have : cmpI (cl (R.getD j 0)) (cl (R.getD j 0)) = 0 := by unfold cmpI; rw [if_neg (by omega), if_neg (by omega)]
    omega
  refine uniq_class (cl := cl) _ _ ?_ (ord_pair (put_marks hz) (put_ord hp R)) fun k => ?_
  · rw [List.pairwise_map]
    exact h.2.imp_of_mem fun hi hj hij => (hle _ _ hi hj hij).1
  · rw [put_class, List.filter_map]
    have e : M.filter ((fun c => cl c == k) ∘ fun k => R.getD k 0) = (List.range R.length).filter ((fun c => cl c == k) ∘ fun k => R.getD k 0) := by
      refine pair_unique (R := fun i j => i < j) (fun _ _ h => by omega) _ _ (h.1.filter _) ?_ (List.pairwise_lt_range.filter _)
      have hf := h.2.filter ((fun c => cl c == k) ∘ fun k => R.getD k 0)
      refine hf.imp_of_mem fun {a b} ha hb hab => ?_
      rw [List.mem_filter] at ha hb
      refine (hle _ _ ha.1 hb.1 hab).2 ?_
      have h1 := ha.2
      have h2 := hb.2
      simp only [Function.comp, beq_iff_eq] at h1 h2
      rw [h1, h2]
    rw [e, ← List.filter_map]
    congr 1
    refine List.ext_getElem (by simp) fun i h1 h2 => ?_
    simp [List.getD_eq_getElem?_getD]
    rw [List.getElem?_eq_getElem h2]
    rfl

/-- one run more: what stands ahead ends in a number of class 0 -/
theorem put_run (hp : ∀ c, 0 ≤ cl c) {T R : List Int} (hT : T = [] ∨ ∃ A z, T = A ++ [z] ∧ cl z = 0) : putO cl (T ++ R) = putO cl T ++ putO cl R := by
  rcases hT with rfl | ⟨A, z, rfl, hz⟩
  · rfl
  · rw [List.append_assoc]
    show putO cl (A ++ z :: R) = _
    rw [put_behind hp hz, put_behind hp hz]
    show _ = putO cl A ++ [z] ++ putO cl R
    simp
theorem put_one (z : Int) : putO cl [z] = [z] := rfl
theorem put_ends (hp : ∀ c, 0 ≤ cl c) (X : List Int) {z : Int} (hz : cl z = 0) : putO cl (X ++ [z]) = putO cl X ++ [z] := by
  rw [put_behind hp hz]
  rfl
end Go.Proofs.YtidjjaginindoaaGreat

/-! ItCmp -/
namespace Go.Proofs.YtidjjaginindoaaGreat
open Go.RowKit

theorem Tryz.infoItem : (Tryz.prog.info? 119).map (fun i => (i.zero, i.size, i.bytes)) = some (some (.agg #[.int .i64 0, .int .i64 0]), 2, 16) := by kernel_rfl

set_option maxHeartbeats 1000000 in
theorem cmpNaN (a : Int) (w : World) : Calls Tryz.prog 130 #[.int .i64 a] w fun e w' => e = .returned (.bool false) ∧ w = w' := by
  go_enter Tryz.func130, Tryz.ntmps130
  go_wp2_with (fail)
  go_ret
  exact ⟨rfl, rfl⟩
set_option maxHeartbeats 1000000 in
theorem cmpCompare (a b : Int) (w : World) : Calls Tryz.prog 116 #[.int .i64 a, .int .i64 b] w fun e w' => e = .returned (.int .i64 (cmpI a b)) ∧ w = w' := by
  obtain ⟨r, hr⟩ : ∃ r, r = cmpI a b := ⟨_, rfl⟩
  rw [← hr]
  have HR := hid hr
  clear hr
  go_enter Tryz.func116, Tryz.ntmps116
  rcases Int.lt_trichotomy a b with h | h | h
  · have HH := hid (show r = -1 by rw [HR.out, cmpI, if_pos h])
    go_wp2_with (go_at_call 130; refine (cmpNaN _ w).mono ?_; rintro e w1 ⟨rfl, rfl⟩)
    go_ret
    exact ⟨by rw [HH.out]; rfl, rfl⟩
  · subst h
    have HH := hid (show r = 0 by rw [HR.out, cmpI, if_neg (by omega), if_neg (by omega)])
    go_wp2_with (go_at_call 130; refine (cmpNaN _ w).mono ?_; rintro e w1 ⟨rfl, rfl⟩)
    go_ret
    exact ⟨by rw [HH.out]; rfl, rfl⟩
  · have HH := hid (show r = 1 by rw [HR.out, cmpI, if_neg (by omega), if_pos h])
    have hn : ¬ a < b := by omega
    go_wp2_with (go_at_call 130; refine (cmpNaN _ w).mono ?_; rintro e w1 ⟨rfl, rfl⟩)
    go_ret
    exact ⟨by rw [HH.out]; rfl, rfl⟩
set_option maxHeartbeats 1000000 in
theorem byClass (an ac bn bc : Int) (w : World) : Calls Tryz.prog 99 #[.agg #[.int .i64 an, .int .i64 ac], .agg #[.int .i64 bn, .int .i64 bc]] w fun e w' => e = .returned (.int .i64 (cmpI ac bc)) ∧ Below w.heap.size w w' := by
  obtain ⟨i0, hi0, hz0, hz1, hz2⟩ := info_parts Tryz.infoItem
  go_enter Tryz.func99, Tryz.ntmps99
  go_wp2_with (go_at_call 116; refine (cmpCompare _ _ _).mono ?_; rintro e w1 ⟨rfl, rfl⟩)
  go_ret
  exact ⟨rfl, by (repeat (first | exact Below.refl _ _ | exact below_drewN _ | refine Below.drew ?_ | refine Below.alloc ?_ (by simp) _ | refine Below.setCell ?_ (by simp) _ | refine below_drewN' ?_ _))⟩
end Go.Proofs.YtidjjaginindoaaGreat

/-! ItS1 -/
namespace Go.Proofs.YtidjjaginindoaaGreat
open Go.RowKit

set_option maxHeartbeats 1000000 in
theorem swapItems (it : List (Int × Int)) (g off cap n : Nat) (pre post : List Value) (p : List Nat) (a b k : Nat) (cb : Value) (w : World) (hb : Rit0 it g off pre post p w) (hp : p.length = n) (hn : n ≤ 1000000) (hab : a + k ≤ b) (hbk : b + k ≤ n) :
    Calls Tryz.prog 141 #[.slice (some ⟨g, off, none⟩) n cap, .int .i64 a, .int .i64 b, .int .i64 k, cb] w fun e w' => e = .returned (.tuple #[]) ∧ Rit it g off pre post w (swR p a b k) w' := by
  have HR := hid (Rit.refl hb)
  have HP := hid hp
  clear hb hp
  obtain ⟨i0, hi0, hz0, hz1, hz2⟩ := info_parts Tryz.infoItem
  go_enter Tryz.func141, Tryz.ntmps141
  go_wp2
  go_loopw [10] (fun iv wr => ∃ i : Nat, i ≤ k ∧ iv = .int .i64 i ∧ Hid (Rit it g off pre post w (swR p a b i) wr)) (fun iv _ => k - (intOf iv).toNat)
  case atStart => exact ⟨0, by omega, rfl, HR.out⟩
  case round =>
    obtain ⟨i, hi, rfl, hr⟩ := hrel
    by_cases hlt : i < k
    · obtain ⟨q, hq⟩ : ∃ q, q = swR p a b i := ⟨_, rfl⟩
      have hql : q.length = n := by rw [hq, swR_len]; exact HP.out
      have hs : Hid (sw q (a + i) (b + i) = swR p a b (i + 1)) := hid (by rw [hq]; rfl)
      rw [← hq] at hr
      clear hq
      obtain ⟨c1, c1'⟩ := hr.out.at (i := a + i) (by omega)
      obtain ⟨c2, c2'⟩ := hr.out.at (i := b + i) (by omega)
      have f1 := hr.out.ice (off + (a + i) * 2)
      have f1' := hr.out.ice (off + (a + i) * 2 + 1)
      have f2 := hr.out.ice (off + (b + i) * 2)
      have f2' := hr.out.ice (off + (b + i) * 2 + 1)
      obtain ⟨xn, hxn⟩ : ∃ x, x = (it.getD (q.getD (a + i) 0) noIt).1 := ⟨_, rfl⟩
      obtain ⟨xc, hxc⟩ : ∃ x, x = (it.getD (q.getD (a + i) 0) noIt).2 := ⟨_, rfl⟩
      obtain ⟨yn, hyn⟩ : ∃ x, x = (it.getD (q.getD (b + i) 0) noIt).1 := ⟨_, rfl⟩
      obtain ⟨yc, hyc⟩ : ∃ x, x = (it.getD (q.getD (b + i) 0) noIt).2 := ⟨_, rfl⟩
      rw [← hxn] at c1
      rw [← hxc] at c1'
      rw [← hyn] at c2
      rw [← hyc] at c2'
      have HV := hid (show (xn = (it.getD (q.getD (a + i) 0) noIt).1 ∧ xc = (it.getD (q.getD (a + i) 0) noIt).2 ∧ yn = (it.getD (q.getD (b + i) 0) noIt).1 ∧ yc = (it.getD (q.getD (b + i) 0) noIt).2) ∧ a + i < q.length ∧ b + i < q.length from ⟨⟨hxn, hxc, hyn, hyc⟩, by omega, by omega⟩)
      clear hxn hxc hyn hyc hql
      obtain ⟨ai, hai⟩ : ∃ ai, ai = a + i := ⟨_, rfl⟩
      obtain ⟨bi, hbi⟩ : ∃ bi, bi = b + i := ⟨_, rfl⟩
      rw [← hai] at c1 c1' f1 f1' HV
      rw [← hbi] at c2 c2' f2 f2' HV
      have w1 : (a : Int) + (i : Int) = (ai : Int) := by omega
      have w2 : (b : Int) + (i : Int) = (bi : Int) := by omega
      have n1 : ai ≠ bi := by omega
      have n2 : bi ≠ ai := by omega
      have l1 : ai < n := by omega
      have l2 : bi < n := by omega
      have HAI := hid hai
      have HBI := hid hbi
      clear hai hbi
      go_wp2
      go_big_region
      all_goals go_wp2
      go_roundw
      case rel => exact ⟨i + 1, by omega, by go_num, by rw [← hs.out, ← HAI.out, ← HBI.out]; exact (hr.out.swap ai bi HV.out.2.1 HV.out.2.2 HV.out.1.1 HV.out.1.2.1 HV.out.1.2.2.1 HV.out.1.2.2.2).drewN 1⟩
      case measure => simp [intOf]; omega
    · obtain rfl : i = k := by omega
      go_wp2
      go_end0
      exact ⟨rfl, hr.out⟩
end Go.Proofs.YtidjjaginindoaaGreat

/-! ItS2 -/
namespace Go.Proofs.YtidjjaginindoaaGreat
open Go.RowKit

set_option maxHeartbeats 2000000 in
theorem rotateItems (it : List (Int × Int)) (g off cap n : Nat) (pre post : List Value) (A L R C : List Nat) (a m b : Nat) (cb : Value) (w : World) (hb : Rit0 it g off pre post (A ++ L ++ R ++ C) w) (hp : A.length + L.length + R.length + C.length = n) (hn : n ≤ 1000000)
    (hL : 0 < L.length) (hR : 0 < R.length) (ha : a = A.length) (hm : m = a + L.length) (hbb : b = m + R.length) :
    Calls Tryz.prog 135 #[.slice (some ⟨g, off, none⟩) n cap, .int .i64 a, .int .i64 m, .int .i64 b, cb] w fun e w' => e = .returned (.tuple #[]) ∧ Rit it g off pre post w (A ++ R ++ L ++ C) w' := by
  have HR := hid (Rit.refl hb)
  clear hb
  obtain ⟨i0, hi0⟩ : ∃ i0, i0 = L.length := ⟨_, rfl⟩
  obtain ⟨j0, hj0⟩ : ∃ j0, j0 = R.length := ⟨_, rfl⟩
  have w1 : (m : Int) - (a : Int) = (i0 : Int) := by omega
  have w2 : (b : Int) - (m : Int) = (j0 : Int) := by omega
  have hmn : m ≤ n := by omega
  have hbn : b ≤ n := by omega
  have HH := hid (show A.length + i0 = m ∧ m + j0 + C.length = n ∧ i0 = L.length ∧ j0 = R.length by omega)
  rw [← hi0] at hL
  rw [← hj0] at hR
  clear hp ha hm hbb hi0 hj0
  go_enter Tryz.func135, Tryz.ntmps135
  go_wp2
  go_loopw [10, 11] (fun iv jv wr => ∃ (i j : Nat) (A1 L1 R1 C1 : List Nat), iv = .int .i64 i ∧ jv = .int .i64 j ∧ 0 < i ∧ 0 < j ∧ i ≤ m ∧ m + j ≤ n ∧ Hid (A1.length + i = m ∧ m + j + C1.length = n ∧ i = L1.length ∧ j = R1.length) ∧ Hid (A1 ++ R1 ++ L1 ++ C1 = A ++ R ++ L ++ C) ∧ Hid (Rit it g off pre post w (A1 ++ L1 ++ R1 ++ C1) wr)) (fun iv jv _ => (intOf iv).toNat + (intOf jv).toNat)
  case atStart => exact ⟨i0, j0, A, L, R, C, rfl, rfl, hL, hR, by have := HH.out; omega, by have := HH.out; omega, HH.out, rfl, HR.out⟩
  case round =>
    obtain ⟨i, j, A1, L1, R1, C1, rfl, rfl, hi, hj, him, hjn, hlen, heq, hr⟩ := hrel
    clear HH HR w1 w2
    obtain ⟨mi, hmi⟩ : ∃ mi, mi = m - i := ⟨_, rfl⟩
    have w3 : (m : Int) - (i : Int) = (mi : Int) := by omega
    have HMI := hid hmi
    clear hmi
    rcases Nat.lt_trichotomy i j with hij | hij | hij
    · obtain ⟨ji, hji⟩ : ∃ ji, ji = j - i := ⟨_, rfl⟩
      obtain ⟨mj, hmj⟩ : ∃ mj, mj = m + ji := ⟨_, rfl⟩
      have w4 : (m : Int) + (j : Int) - (i : Int) = (mj : Int) := by omega
      have w5 : (j : Int) - (i : Int) = (ji : Int) := by omega
      have hcut : ∃ R2 R3, R1 = R2 ++ R3 ∧ R2.length = ji ∧ R3.length = i := ⟨R1.take ji, R1.drop ji, (List.take_append_drop _ _).symm, by have := hlen.out; rw [List.length_take]; omega, by have := hlen.out; rw [List.length_drop]; omega⟩
      obtain ⟨R2, R3, rfl, hR2, hR3⟩ := hcut
      have hsw := swR_runs A1 L1 R2 R3 C1 (by have := hlen.out; omega)
      have HNX := hid (show A1.length + i = m ∧ m + ji + (L1 ++ C1).length = n ∧ i = R3.length ∧ ji = R2.length by have := hlen.out; simp at this ⊢; omega)
      have HEQ : Hid (A1 ++ R2 ++ R3 ++ (L1 ++ C1) = A ++ R ++ L ++ C) := hid (by rw [← heq.out]; simp)
      have e1 : A1.length = mi := by have := hlen.out; have := HMI.out; omega
      have e2 : A1.length + L1.length + R2.length = mj := by have := hlen.out; omega
      have e3 : L1.length = i := by have := hlen.out; omega
      rw [e2, e1, e3] at hsw
      have HSW := hid hsw
      have HBX := hid hr.out.1
      have HLN := hid (show (A1 ++ L1 ++ (R2 ++ R3) ++ C1).length = n by have := hlen.out; simp at this ⊢; omega)
      have HG := hid hmj
      clear hsw e1 e2 e3 hR2 hR3 hmj hlen heq
      go_wp2_with (go_at_call 141; refine (swapItems it g off cap n pre post (A1 ++ L1 ++ (R2 ++ R3) ++ C1) mi mj i cb wr HBX.out HLN.out hn (by have := HMI.out; have := HG.out; omega) (by have := HMI.out; have := HG.out; omega)).mono ?_; rintro e w6 ⟨rfl, hr6⟩; have HR6 := hid hr6; clear hr6)
      go_roundw
      case rel => exact ⟨i, ji, A1, R3, R2, L1 ++ C1, rfl, by first | rfl | (congr 1; omega), hi, by omega, him, by omega, HNX.out, HEQ.out, by
        have h6 := HR6.out
        rw [show A1 ++ L1 ++ (R2 ++ R3) ++ C1 = A1 ++ L1 ++ R2 ++ R3 ++ C1 by simp, HSW.out] at h6
        rw [show A1 ++ R3 ++ R2 ++ (L1 ++ C1) = A1 ++ R3 ++ R2 ++ L1 ++ C1 by simp]
        exact hr.out.trans h6⟩
      case measure => simp [intOf]; omega
    · subst hij
      have hsw := swR_runs A1 L1 [] R1 C1 (by have := hlen.out; omega)
      have e1 : A1.length = mi := by have := hlen.out; have := HMI.out; omega
      have e2 : A1.length + L1.length + ([] : List Nat).length = m := by have := hlen.out; simp; omega
      have e3 : L1.length = i := by have := hlen.out; omega
      rw [e2, e1, e3] at hsw
      have HSW := hid hsw
      have HBX := hid hr.out.1
      have HLN := hid (show (A1 ++ L1 ++ R1 ++ C1).length = n by have := hlen.out; simp at this ⊢; omega)
      clear hsw e1 e2 e3 hlen
      go_wp2_with (go_at_call 141; refine (swapItems it g off cap n pre post (A1 ++ L1 ++ R1 ++ C1) mi m i cb wr HBX.out HLN.out hn (by have := HMI.out; omega) (by omega)).mono ?_; rintro e w6 ⟨rfl, hr6⟩; have HR6 := hid hr6; clear hr6)
      go_end0
      refine ⟨rfl, ?_⟩
      have h6 := HR6.out
      rw [show A1 ++ L1 ++ R1 ++ C1 = A1 ++ L1 ++ [] ++ R1 ++ C1 by simp, HSW.out] at h6
      rw [← heq.out, show A1 ++ R1 ++ L1 ++ C1 = A1 ++ R1 ++ [] ++ L1 ++ C1 by simp]
      exact hr.out.trans h6
    · obtain ⟨ij, hji⟩ : ∃ ij, ij = i - j := ⟨_, rfl⟩
      have w5 : (i : Int) - (j : Int) = (ij : Int) := by omega
      have hcut : ∃ L2 L3, L1 = L2 ++ L3 ∧ L2.length = j ∧ L3.length = ij := ⟨L1.take j, L1.drop j, (List.take_append_drop _ _).symm, by have := hlen.out; rw [List.length_take]; omega, by have := hlen.out; rw [List.length_drop]; omega⟩
      obtain ⟨L2, L3, rfl, hL2, hL3⟩ := hcut
      have hsw := swR_runs A1 L2 L3 R1 C1 (by have := hlen.out; omega)
      have HNX := hid (show (A1 ++ R1).length + ij = m ∧ m + j + C1.length = n ∧ ij = L3.length ∧ j = L2.length by have := hlen.out; simp at this ⊢; omega)
      have HEQ : Hid (A1 ++ R1 ++ L2 ++ L3 ++ C1 = A ++ R ++ L ++ C) := hid (by rw [← heq.out]; simp)
      have e1 : A1.length = mi := by have := hlen.out; have := HMI.out; omega
      have e2 : A1.length + L2.length + L3.length = m := by have := hlen.out; omega
      rw [e2, e1, hL2] at hsw
      have HSW := hid hsw
      have HBX := hid hr.out.1
      have HLN := hid (show (A1 ++ (L2 ++ L3) ++ R1 ++ C1).length = n by have := hlen.out; simp at this ⊢; omega)
      clear hsw e1 e2 hL2 hL3 hlen heq
      go_wp2_with (go_at_call 141; refine (swapItems it g off cap n pre post (A1 ++ (L2 ++ L3) ++ R1 ++ C1) mi m j cb wr HBX.out HLN.out hn (by have := HMI.out; omega) (by omega)).mono ?_; rintro e w6 ⟨rfl, hr6⟩; have HR6 := hid hr6; clear hr6)
      go_roundw
      case rel => exact ⟨ij, j, A1 ++ R1, L3, L2, C1, by first | rfl | (congr 1; omega), rfl, by omega, hj, by omega, by omega, HNX.out, HEQ.out, by
        have h6 := HR6.out
        rw [show A1 ++ (L2 ++ L3) ++ R1 ++ C1 = A1 ++ L2 ++ L3 ++ R1 ++ C1 by simp, HSW.out] at h6
        exact hr.out.trans h6⟩
      case measure => simp [intOf]; omega
end Go.Proofs.YtidjjaginindoaaGreat

/-! ItS3 -/
namespace Go.Proofs.YtidjjaginindoaaGreat
open Go.RowKit

set_option maxHeartbeats 2000000 in
set_option maxRecDepth 100000 in
theorem symLeftI (it : List (Int × Int)) (g off cap n : Nat) (pre post : List Value) (l : List (List Int)) (hlc : l = lcl it) (A R C : List Nat) (x a m b : Nat) (w : World) (hb : Rit0 it g off pre post (A ++ [x] ++ R ++ C) w) (hp : A.length + 1 + R.length + C.length = n) (hn : n ≤ 1000000)
    (ha : a = A.length) (hm : m = a + 1) (hbb : b = m + R.length) (hx : x < l.length) (hR : ∀ y ∈ R, x < y ∧ y < l.length) (hs : R.Pairwise (ilt l)) :
    Calls Tryz.prog 129 #[.slice (some ⟨g, off, none⟩) n cap, .int .i64 a, .int .i64 m, .int .i64 b, .func (.func 99) #[] #[]] w fun e w' => e = .returned (.tuple #[]) ∧
      ∃ M, M.Perm ([x] ++ R) ∧ M.Pairwise (ilt l) ∧ Rit it g off pre post w (A ++ M ++ C) w' := by
  have HR := hid (Rit.refl hb)
  have HLC := hid hlc
  have hbn : b ≤ n := by omega
  have HA := hid (show a = A.length ∧ m = a + 1 ∧ b = m + R.length by omega)
  have HP := hid hp
  have HX := hid hx
  have HRR := hid hR
  have HS := hid hs
  have w1 : (m : Int) - (a : Int) = 1 := by omega
  have han : a < m := by omega
  obtain ⟨i0, hi0, hz0, hz1, hz2⟩ := info_parts Tryz.infoItem
  clear hb hlc ha hm hbb hp hx hR hs
  go_enter Tryz.func129, Tryz.ntmps129
  go_wp2
  go_loopw [10, 11] (fun iv jv wr => ∃ (i j : Nat), iv = .int .i64 i ∧ jv = .int .i64 j ∧ Hid (Rit it g off pre post w (A ++ [x] ++ R ++ C) wr) ∧ m ≤ i ∧ i ≤ j ∧ j ≤ b ∧ Hid (i = m ∨ ilt l (R.getD (i - 1 - m) 0) x) ∧ Hid (j = b ∨ ilt l x (R.getD (j - m) 0))) (fun iv jv _ => (intOf jv).toNat - (intOf iv).toNat)
  case atStart => exact ⟨m, b, rfl, rfl, HR.out, by omega, by have := HA.out; omega, by omega, .inl rfl, .inl rfl⟩
  case round =>
    obtain ⟨i, j, rfl, rfl, hr, hmi, hij, hjb, hI, hJ⟩ := hrel
    by_cases hlt : i < j
    · obtain ⟨h, hh⟩ : ∃ h, h = (i + j) / 2 := ⟨_, rfl⟩
      have w2 : ((i : Int) + (j : Int)) / 2 = (h : Int) := by omega
      have hih : i ≤ h := by omega
      have hhj : h < j := by omega
      have han' : a < n := by omega
      have hhn : h < n := by omega
      clear hh
      have hlen : (A ++ [x] ++ R ++ C).length = n := by have := HP.out; simp; omega
      have hhR : h - m < R.length := by have := HA.out; omega
      have gY : (A ++ [x] ++ R ++ C).getD h 0 = R.getD (h - m) 0 := by
        rw [at_right (by have := HA.out; simp; omega) (by have := HA.out; simp; omega), show A.length + [x].length = m by have := HA.out; simp; omega]
      have gX : (A ++ [x] ++ R ++ C).getD a 0 = x := by
        rw [show A ++ [x] ++ R ++ C = A ++ x :: (R ++ C) by simp, HA.out.1, getD_mid]
      obtain ⟨c1, c1'⟩ := hr.out.at (i := h) (by omega)
      obtain ⟨c2, c2'⟩ := hr.out.at (i := a) (by omega)
      rw [gY] at c1 c1'
      rw [gX] at c2 c2'
      obtain ⟨y, hy⟩ : ∃ y, y = R.getD (h - m) 0 := ⟨_, rfl⟩
      rw [← hy] at c1 c1'
      have hyR := HRR.out y (by rw [hy]; exact getD_memN hhR)
      have HY := hid hy
      have HYX := hid hyR
      obtain ⟨xn, hxn⟩ : ∃ n, n = (it.getD x noIt).1 := ⟨_, rfl⟩
      obtain ⟨xc, hxc⟩ : ∃ n, n = (it.getD x noIt).2 := ⟨_, rfl⟩
      obtain ⟨yn, hyn⟩ : ∃ n, n = (it.getD y noIt).1 := ⟨_, rfl⟩
      obtain ⟨yc, hyc⟩ : ∃ n, n = (it.getD y noIt).2 := ⟨_, rfl⟩
      rw [← hyn] at c1
      rw [← hyc] at c1'
      rw [← hxn] at c2
      rw [← hxc] at c2'
      have HLT := hid (cmpI_lt HLC.out HYX.out.1 HYX.out.2 hyc hxc)
      have HGE := hid (cmpI_ge HLC.out HYX.out.1 HYX.out.2 hyc hxc)
      have s1 := fun u : Later wr => u.cell c1
      have s1' := fun u : Later wr => u.cell c1'
      have s2 := fun u : Later wr => u.cell c2
      have s2' := fun u : Later wr => u.cell c2'
      have HCM := hid (fun u : Later wr => later_call (byClass yn yc xn xc u.w))
      clear hy hyR hhR hlen gY gX hxn hxc hyn hyc c1 c1' c2 c2'
      go_wp2
      refine region_later (by kernel_rfl) (by kernel_rfl) ?_
      repeat (go_big_quiet_step (first | (go_at_call 99; with_reducible exact HCM.out _)))
      refine wpQuiet_nil ?_
      intro _ hw'
      obtain ⟨u, hw''⟩ := hw'
      subst hw''
      have HRU := hid (hr.out.below u.below)
      clear s1 s1' s2 s2'
      generalize u.w = wu at HRU ⊢
      obtain ⟨c, hc⟩ : ∃ c, c = cmpI yc xc := ⟨_, rfl⟩
      rw [← hc] at HLT HGE ⊢
      by_cases he : c < 0
      · have HN : Hid (ilt l (R.getD (h + 1 - 1 - m) 0) x) := hid (by rw [Nat.add_sub_cancel, ← HY.out]; exact HLT.out.1 (by omega))
        clear hc
        go_wp2
        go_roundw
        case rel => exact ⟨h + 1, j, by go_num, rfl, HRU.out, by omega, by omega, hjb, .inr HN.out, hJ.out⟩
        case measure => simp [intOf]; omega
      · have HN : Hid (ilt l x (R.getD (h - m) 0)) := hid (by rw [← HY.out]; exact HGE.out.1 (by omega))
        clear hc
        go_wp2
        go_roundw
        case rel => exact ⟨i, h, rfl, rfl, HRU.out, hmi, hih, by omega, hI.out, .inr HN.out⟩
        case measure => simp [intOf]; omega
    · obtain rfl : j = i := by omega
      obtain ⟨t, ht⟩ : ∃ t, t = j - m := ⟨_, rfl⟩
      have hjt : j = a + 1 + t := by have := HA.out; omega
      have htR : t ≤ R.length := by have := HA.out; omega
      have HPW := hid (pw_put (x := x) HS.out htR (by rcases hI.out with h | h; exact .inl (by omega); exact .inr (by rw [ht]; rwa [show j - m - 1 = j - 1 - m by omega])) (by rcases hJ.out with h | h; exact .inl (by have := HA.out; omega); exact .inr (by rw [ht]; exact h)))
      obtain ⟨e1, he1⟩ : ∃ e1, e1 = a + t := ⟨_, rfl⟩
      have w5 : (j : Int) - 1 = (e1 : Int) := by omega
      have hatn : e1 < n := by omega
      have HE1 := hid he1
      have HB0 : Hid (Rit it g off pre post w (shL A R C x 0) wr) := hid (by rw [shL_zero]; exact hr.out)
      have HTR := hid htR
      clear hI hJ ht htR w1 he1
      go_wp2
      go_loopw [13] (fun kv wr => ∃ c k : Nat, k ≤ e1 ∧ kv = .int .i64 k ∧ Hid (k = a + c) ∧ Hid (Rit it g off pre post w (shL A R C x c) wr)) (fun kv _ => e1 - (intOf kv).toNat)
      case atStart => exact ⟨0, a, by have := HE1.out; omega, rfl, rfl, HB0.out⟩
      case round =>
        obtain ⟨c, k, hke, rfl, hk, hr⟩ := hrel
        by_cases hlt : k < e1
        · have hk := hk.out
          have hct : c < t := by have := HE1.out; omega
          obtain ⟨k1, hk1⟩ : ∃ k1, k1 = k + 1 := ⟨_, rfl⟩
          have hst := shL_step (A := A) (R := R) (C := C) (x := x) (c := c) (by have := HTR.out; omega)
          obtain ⟨p, hpp⟩ : ∃ p, p = shL A R C x c := ⟨_, rfl⟩
          have hpl : p.length = n := by rw [hpp, shL_len]; exact HP.out
          rw [← hpp] at hr hst
          rw [← HA.out.1, ← hk, ← hk1] at hst
          have HST := hid hst
          obtain ⟨c1, c1'⟩ := hr.out.at (i := k) (by omega)
          obtain ⟨c2, c2'⟩ := hr.out.at (i := k1) (by omega)
          have f1 := hr.out.ice (off + k * 2)
          have f1' := hr.out.ice (off + k * 2 + 1)
          have f2 := hr.out.ice (off + k1 * 2)
          have f2' := hr.out.ice (off + k1 * 2 + 1)
          obtain ⟨un, hun⟩ : ∃ x, x = (it.getD (p.getD k 0) noIt).1 := ⟨_, rfl⟩
          obtain ⟨uc, huc⟩ : ∃ x, x = (it.getD (p.getD k 0) noIt).2 := ⟨_, rfl⟩
          obtain ⟨vn, hvn⟩ : ∃ x, x = (it.getD (p.getD k1 0) noIt).1 := ⟨_, rfl⟩
          obtain ⟨vc, hvc⟩ : ∃ x, x = (it.getD (p.getD k1 0) noIt).2 := ⟨_, rfl⟩
          rw [← hun] at c1
          rw [← huc] at c1'
          rw [← hvn] at c2
          rw [← hvc] at c2'
          have HV := hid (show (un = (it.getD (p.getD k 0) noIt).1 ∧ uc = (it.getD (p.getD k 0) noIt).2 ∧ vn = (it.getD (p.getD k1 0) noIt).1 ∧ vc = (it.getD (p.getD k1 0) noIt).2) ∧ k < p.length ∧ k1 < p.length from ⟨⟨hun, huc, hvn, hvc⟩, by omega, by omega⟩)
          clear hun huc hvn hvc
          have w6 : (k : Int) + 1 = (k1 : Int) := by omega
          have n1 : k ≠ k1 := by omega
          have n2 : k1 ≠ k := by omega
          have b1 : k < n := by omega
          have b2 : k1 < n := by omega
          have HK := hid (show k = a + c ∧ k1 = k + 1 from ⟨hk, hk1⟩)
          clear hct hk hk1 hst hpl hpp
          go_wp2
          go_big_region
          all_goals go_wp2
          go_roundw
          case rel => exact ⟨c + 1, k1, by omega, by go_num, by have := HK.out; show k1 = a + (c + 1); omega, by rw [← HST.out]; exact (hr.out.swap k k1 HV.out.2.1 HV.out.2.2 HV.out.1.1 HV.out.1.2.1 HV.out.1.2.2.1 HV.out.1.2.2.2).drewN 1⟩
          case measure => simp [intOf]; omega
        · obtain rfl : c = t := by have := HE1.out; have := hk.out; omega
          obtain rfl : k = e1 := by omega
          go_wp2
          (try simp only [Exit.inBlock, Exit.then]); refine bodyPost_ret (results_none rfl _ _ _) rfl ?_
          exact ⟨rfl, _, put_perm R x c, HPW.out, by rw [← shL_end]; exact hr.out⟩
end Go.Proofs.YtidjjaginindoaaGreat

/-! ItS4 -/
namespace Go.Proofs.YtidjjaginindoaaGreat
open Go.RowKit

set_option maxHeartbeats 2000000 in
set_option maxRecDepth 100000 in
theorem symRightI (it : List (Int × Int)) (g off cap n : Nat) (pre post : List Value) (l : List (List Int)) (hlc : l = lcl it) (A L C : List Nat) (y a m b : Nat) (w : World) (hb : Rit0 it g off pre post (A ++ L ++ [y] ++ C) w) (hp : A.length + L.length + 1 + C.length = n) (hn : n ≤ 1000000)
    (ha : a = A.length) (hm : m = a + L.length) (hbb : b = m + 1) (hL1 : 1 < L.length) (hy : y < l.length) (hL : ∀ x ∈ L, x < y) (hs : L.Pairwise (ilt l)) :
    Calls Tryz.prog 129 #[.slice (some ⟨g, off, none⟩) n cap, .int .i64 a, .int .i64 m, .int .i64 b, .func (.func 99) #[] #[]] w fun e w' => e = .returned (.tuple #[]) ∧
      ∃ M, M.Perm (L ++ [y]) ∧ M.Pairwise (ilt l) ∧ Rit it g off pre post w (A ++ M ++ C) w' := by
  have HR := hid (Rit.refl hb)
  have HLC := hid hlc
  have hbn : b ≤ n := by omega
  have HA := hid (show a = A.length ∧ m = a + L.length ∧ b = m + 1 by omega)
  have HP := hid hp
  have HY := hid hy
  have HLL := hid hL
  have HS := hid hs
  obtain ⟨dl, hdl⟩ : ∃ dl, dl = L.length := ⟨_, rfl⟩
  have w1 : (m : Int) - (a : Int) = (dl : Int) := by omega
  have w1' : ((dl : Int) == 1) = false := by simp; omega
  have w0 : (b : Int) - (m : Int) = 1 := by omega
  have ham : a ≤ m := by omega
  have hmb : m < b := by omega
  obtain ⟨i0, hi0, hz0, hz1, hz2⟩ := info_parts Tryz.infoItem
  clear hb hlc ha hm hbb hp hy hL hs hL1 hdl
  go_enter Tryz.func129, Tryz.ntmps129
  go_wp2
  go_loopw [14, 15] (fun iv jv wr => ∃ (i j : Nat), iv = .int .i64 i ∧ jv = .int .i64 j ∧ Hid (Rit it g off pre post w (A ++ L ++ [y] ++ C) wr) ∧ a ≤ i ∧ i ≤ j ∧ j ≤ m ∧ Hid (i = a ∨ ilt l (L.getD (i - 1 - a) 0) y) ∧ Hid (j = m ∨ ilt l y (L.getD (j - a) 0))) (fun iv jv _ => (intOf jv).toNat - (intOf iv).toNat)
  case atStart => exact ⟨a, m, rfl, rfl, HR.out, by omega, ham, by omega, .inl rfl, .inl rfl⟩
  case round =>
    obtain ⟨i, j, rfl, rfl, hr, hmi, hij, hjb, hI, hJ⟩ := hrel
    by_cases hlt : i < j
    · obtain ⟨h, hh⟩ : ∃ h, h = (i + j) / 2 := ⟨_, rfl⟩
      have w2 : ((i : Int) + (j : Int)) / 2 = (h : Int) := by omega
      have hih : i ≤ h := by omega
      have hhj : h < j := by omega
      have hmn' : m < n := by omega
      have hhn : h < n := by omega
      clear hh
      have hlen : (A ++ L ++ [y] ++ C).length = n := by have := HP.out; simp; omega
      have hhR : h - a < L.length := by have := HA.out; omega
      have gX : (A ++ L ++ [y] ++ C).getD h 0 = L.getD (h - a) 0 := by
        rw [show A ++ L ++ [y] ++ C = A ++ L ++ ([y] ++ C) by simp, at_left (by have := HA.out; omega) (by have := HA.out; omega), ← HA.out.1]
      have gY : (A ++ L ++ [y] ++ C).getD m 0 = y := by
        have hml : m = (A ++ L).length := by have := HA.out; simp; omega
        rw [show A ++ L ++ [y] ++ C = (A ++ L) ++ y :: C by simp, hml, getD_mid]
      obtain ⟨c1, c1'⟩ := hr.out.at (i := h) (by omega)
      obtain ⟨c2, c2'⟩ := hr.out.at (i := m) (by omega)
      rw [gX] at c1 c1'
      rw [gY] at c2 c2'
      obtain ⟨x, hx⟩ : ∃ x, x = L.getD (h - a) 0 := ⟨_, rfl⟩
      rw [← hx] at c1 c1'
      have hyR := HLL.out x (by rw [hx]; exact getD_memN hhR)
      have HX := hid hx
      have HYX := hid hyR
      obtain ⟨xn, hxn⟩ : ∃ n, n = (it.getD x noIt).1 := ⟨_, rfl⟩
      obtain ⟨xc, hxc⟩ : ∃ n, n = (it.getD x noIt).2 := ⟨_, rfl⟩
      obtain ⟨yn, hyn⟩ : ∃ n, n = (it.getD y noIt).1 := ⟨_, rfl⟩
      obtain ⟨yc, hyc⟩ : ∃ n, n = (it.getD y noIt).2 := ⟨_, rfl⟩
      rw [← hyn] at c2
      rw [← hyc] at c2'
      rw [← hxn] at c1
      rw [← hxc] at c1'
      have HLT := hid (cmpI_lt HLC.out HYX.out HY.out hyc hxc)
      have HGE := hid (cmpI_ge HLC.out HYX.out HY.out hyc hxc)
      have s1 := fun u : Later wr => u.cell c1
      have s1' := fun u : Later wr => u.cell c1'
      have s2 := fun u : Later wr => u.cell c2
      have s2' := fun u : Later wr => u.cell c2'
      have HCM := hid (fun u : Later wr => later_call (byClass yn yc xn xc u.w))
      clear hx hyR hhR hlen gY gX hxn hxc hyn hyc c1 c1' c2 c2'
      go_wp2
      refine region_later (by kernel_rfl) (by kernel_rfl) ?_
      repeat (go_big_quiet_step (first | (go_at_call 99; with_reducible exact HCM.out _)))
      refine wpQuiet_nil ?_
      intro _ hw'
      obtain ⟨u, hw''⟩ := hw'
      subst hw''
      have HRU := hid (hr.out.below u.below)
      clear s1 s1' s2 s2'
      generalize u.w = wu at HRU ⊢
      obtain ⟨c, hc⟩ : ∃ c, c = cmpI yc xc := ⟨_, rfl⟩
      rw [← hc] at HLT HGE ⊢
      by_cases he : c < 0
      · have HN : Hid (ilt l y (L.getD (h - a) 0)) := hid (by rw [← HX.out]; exact HLT.out.1 (by omega))
        clear hc
        go_wp2
        · exfalso
          rename_i hz
          simp at hz
          omega
        go_roundw
        case rel => exact ⟨i, h, rfl, rfl, HRU.out, hmi, hih, by omega, hI.out, .inr HN.out⟩
        case measure => simp [intOf]; omega
      · have HN : Hid (ilt l (L.getD (h + 1 - 1 - a) 0) y) := hid (by rw [Nat.add_sub_cancel, ← HX.out]; exact HGE.out.1 (by omega))
        clear hc
        go_wp2
        · go_roundw
          case rel => exact ⟨h + 1, j, by go_num, rfl, HRU.out, by omega, by omega, hjb, .inr HN.out, hJ.out⟩
          case measure => simp [intOf]; omega
        · exfalso
          rename_i hz
          simp at hz
          omega
    · obtain rfl : j = i := by omega
      obtain ⟨t, ht⟩ : ∃ t, t = j - a := ⟨_, rfl⟩
      have hjt : j = a + t := by omega
      have htR : t ≤ L.length := by have := HA.out; omega
      have HPW := hid (pw_put (x := y) HS.out htR (by rcases hI.out with h | h; exact .inl (by omega); exact .inr (by rw [ht]; rwa [show j - a - 1 = j - 1 - a by omega])) (by rcases hJ.out with h | h; exact .inl (by have := HA.out; omega); exact .inr (by rw [ht]; exact h)))
      have HB0 : Hid (Rit it g off pre post w (shL A L C y L.length) wr) := hid (by rw [shL_full]; exact hr.out)
      have HTR := hid htR
      have HJT := hid hjt
      clear hI hJ ht htR w1 hjt
      go_wp2
      go_loopw [17] (fun kv wr => ∃ c k : Nat, j ≤ k ∧ k ≤ m ∧ kv = .int .i64 k ∧ Hid (k = a + c) ∧ Hid (Rit it g off pre post w (shL A L C y c) wr)) (fun kv _ => (intOf kv).toNat)
      case atStart => exact ⟨L.length, m, hjb, by omega, rfl, by have := HA.out; exact this.2.1, HB0.out⟩
      case round =>
        obtain ⟨c, k, hke, hkm, rfl, hk, hr⟩ := hrel
        by_cases hlt : j < k
        · have hk := hk.out
          obtain ⟨c, rfl⟩ : ∃ c', c = c' + 1 := ⟨c - 1, by have := HJT.out; omega⟩
          obtain ⟨k1, rfl⟩ : ∃ k1, k = k1 + 1 := ⟨k - 1, by omega⟩
          have hst := shL_back (A := A) (L := L) (C := C) (y := y) (c := c) (by have := HA.out; omega)
          obtain ⟨p, hpp⟩ : ∃ p, p = shL A L C y (c + 1) := ⟨_, rfl⟩
          have hpl : p.length = n := by rw [hpp, shL_len]; have := HP.out; omega
          rw [← hpp] at hr hst
          obtain ⟨k, hkk⟩ : ∃ k, k = k1 + 1 := ⟨_, rfl⟩
          rw [← HA.out.1, show a + c + 1 = k by omega, show a + c = k1 by omega] at hst
          have HST := hid hst
          obtain ⟨c1, c1'⟩ := hr.out.at (i := k) (by omega)
          obtain ⟨c2, c2'⟩ := hr.out.at (i := k1) (by omega)
          have f1 := hr.out.ice (off + k * 2)
          have f1' := hr.out.ice (off + k * 2 + 1)
          have f2 := hr.out.ice (off + k1 * 2)
          have f2' := hr.out.ice (off + k1 * 2 + 1)
          obtain ⟨un, hun⟩ : ∃ x, x = (it.getD (p.getD k 0) noIt).1 := ⟨_, rfl⟩
          obtain ⟨uc, huc⟩ : ∃ x, x = (it.getD (p.getD k 0) noIt).2 := ⟨_, rfl⟩
          obtain ⟨vn, hvn⟩ : ∃ x, x = (it.getD (p.getD k1 0) noIt).1 := ⟨_, rfl⟩
          obtain ⟨vc, hvc⟩ : ∃ x, x = (it.getD (p.getD k1 0) noIt).2 := ⟨_, rfl⟩
          rw [← hun] at c1
          rw [← huc] at c1'
          rw [← hvn] at c2
          rw [← hvc] at c2'
          have HV := hid (show (un = (it.getD (p.getD k 0) noIt).1 ∧ uc = (it.getD (p.getD k 0) noIt).2 ∧ vn = (it.getD (p.getD k1 0) noIt).1 ∧ vc = (it.getD (p.getD k1 0) noIt).2) ∧ k < p.length ∧ k1 < p.length from ⟨⟨hun, huc, hvn, hvc⟩, by omega, by omega⟩)
          clear hun huc hvn hvc
          have w6 : (k : Int) - 1 = (k1 : Int) := by omega
          have n1 : k ≠ k1 := by omega
          have n2 : k1 ≠ k := by omega
          have b1 : k < n := by omega
          have b2 : k1 < n := by omega
          have HK := hid (show k = a + (c + 1) ∧ k = k1 + 1 by omega)
          rw [← hkk] at hke hkm hlt ⊢
          clear hk hkk hst hpl hpp
          go_wp2
          go_big_region
          all_goals go_wp2
          go_roundw
          case rel => exact ⟨c, k1, by omega, by omega, by first | rfl | go_num, by have := HK.out; show k1 = a + c; omega, by rw [← HST.out]; exact (hr.out.swap k k1 HV.out.2.1 HV.out.2.2 HV.out.1.1 HV.out.1.2.1 HV.out.1.2.2.1 HV.out.1.2.2.2).drewN 1⟩
          case measure => simp [intOf]; omega
        · obtain rfl : k = j := by omega
          obtain rfl : c = t := by have := HJT.out; have := hk.out; omega
          go_wp2
          (try simp only [Exit.inBlock, Exit.then]); refine bodyPost_ret (results_none rfl _ _ _) rfl ?_
          exact ⟨rfl, _, (put_perm L y c).trans (List.perm_append_comm (l₁ := [y]) (l₂ := L)), HPW.out, by rw [← shL_end]; exact hr.out⟩
end Go.Proofs.YtidjjaginindoaaGreat
