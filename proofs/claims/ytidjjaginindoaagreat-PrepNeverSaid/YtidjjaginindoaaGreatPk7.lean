/- Several texts in one: AnyOps, OrdSpec, CompSpec, OrdProj, CompSame, FlatProj, OrdMid. -/
import Derived.Test.YtidjjaginindoaaGreatPk1
import Derived.Orders
import Derived.StillTail
import Derived.Great.BuildSlice
/-! AnyOps -/
namespace Go.Proofs.YtidjjaginindoaaGreat
open Go.RowKit

section
variable {P : Program} {ops : Array Oper} {md : Region.Mode} {Q : Exit → Act → World → Prop} {a : Act} {w w' : World} {fuel : Nat} {listed : Array Bool} {v : Value}
theorem still_at {o : Oper} {rest : List Oper} {Q : Act → Prop} (hg : o.guard = none) (hv : (execOp a.eval o).run P w = .ok (.value v) w) (h : wpStill P ops w Q rest (a.put o.dst v)) : wpStill P ops w Q (o :: rest) a :=
  wpStill_step fun K hK => by
    rw [if_pos (by simp [Region.wanted, hg])]
    unfold Oper.still
    rw [hv]
    exact ⟨rfl, hK _ h⟩
theorem op_at {i : Nat} {o : Oper} {K : Act → World → Prop} (ho : ops[i]? = some o) (hg : o.guard = none) (hv : (execOp a.eval o).run P w = .ok (.value v) w') (h : K (a.put o.dst v) w') : wpOp P ops Q i K a w := by
  unfold wpOp
  simp only [ho]
  rw [if_pos (by simp [Region.wanted, hg])]
  left
  unfold Oper.wp
  rw [hv]
  exact h
/-- one operation alone may come up -/
theorem any_one {i : Nat} {o : Oper} (ho : ops[i]? = some o) (hr : Region.ready md ops listed = [i]) (hg : o.guard = none) (hv : (execOp a.eval o).run P w = .ok (.value v) w')
    (h : wpAny P md ops Q fuel (listed.setIfInBounds i true) (a.put o.dst v) w') : wpAny P md ops Q (fuel + 1) listed a w :=
  wpAny_all hr (by simp) fun j hj => by
    simp only [List.mem_singleton] at hj
    subst hj
    exact op_at ho hg hv h
/-- either of two may -/
theorem any_two {i k : Nat} {o o2 : Oper} {v2 : Value} {w2 : World} (hr : Region.ready md ops listed = [i, k]) (ho : ops[i]? = some o) (hg : o.guard = none) (hv : (execOp a.eval o).run P w = .ok (.value v) w')
    (ho2 : ops[k]? = some o2) (hg2 : o2.guard = none) (hv2 : (execOp a.eval o2).run P w = .ok (.value v2) w2)
    (h : wpAny P md ops Q fuel (listed.setIfInBounds i true) (a.put o.dst v) w') (h2 : wpAny P md ops Q fuel (listed.setIfInBounds k true) (a.put o2.dst v2) w2) : wpAny P md ops Q (fuel + 1) listed a w :=
  wpAny_all hr (by simp) fun j hj => by
    simp only [List.mem_cons, List.not_mem_nil, or_false] at hj
    rcases hj with rfl | rfl
    · exact op_at ho hg hv h
    · exact op_at ho2 hg2 hv2 h2
/-- two reads, and a third operation behind the second of them -/
theorem any_three {i j k : Nat} {oi oj ok : Oper} {vi vj vk : Value} (hi : ops[i]? = some oi) (hj : ops[j]? = some oj) (hk : ops[k]? = some ok) (gi : oi.guard = none) (gj : oj.guard = none) (gk : ok.guard = none)
    (hij : i ≠ j) (hik : i ≠ k) (dij : ∀ d, oj.dst = some d → oi.dst ≠ some d) (dik : ∀ d, ok.dst = some d → oi.dst ≠ some d)
    (r1 : Region.ready md ops listed = [i, j]) (r2 : Region.ready md ops (listed.setIfInBounds i true) = [j]) (r3 : Region.ready md ops ((listed.setIfInBounds i true).setIfInBounds j true) = [k])
    (r4 : Region.ready md ops (listed.setIfInBounds j true) = [i, k]) (r5 : Region.ready md ops ((listed.setIfInBounds j true).setIfInBounds i true) = [k]) (r6 : Region.ready md ops ((listed.setIfInBounds j true).setIfInBounds k true) = [i])
    (i1 : (execOp a.eval oi).run P w = .ok (.value vi) w) (i2 : (execOp (a.put oj.dst vj).eval oi).run P w = .ok (.value vi) w) (i3 : (execOp ((a.put oj.dst vj).put ok.dst vk).eval oi).run P w' = .ok (.value vi) w')
    (j1 : (execOp a.eval oj).run P w = .ok (.value vj) w) (j2 : (execOp (a.put oi.dst vi).eval oj).run P w = .ok (.value vj) w)
    (k1 : (execOp ((a.put oi.dst vi).put oj.dst vj).eval ok).run P w = .ok (.value vk) w') (k2 : (execOp (a.put oj.dst vj).eval ok).run P w = .ok (.value vk) w') (k3 : (execOp ((a.put oj.dst vj).put oi.dst vi).eval ok).run P w = .ok (.value vk) w')
    (h : wpAny P md ops Q fuel (((listed.setIfInBounds i true).setIfInBounds j true).setIfInBounds k true) (((a.put oi.dst vi).put oj.dst vj).put ok.dst vk) w') : wpAny P md ops Q (fuel + 1 + 1 + 1) listed a w := by
  refine any_two r1 hi gi i1 hj gj j1 ?_ ?_
  · exact any_one hj r2 gj j2 (any_one hk r3 gk k1 h)
  · refine any_two r4 hi gi i2 hk gk k2 ?_ ?_
    · refine any_one hk r5 gk k3 ?_
      rw [Act.put_comm a vj vi dij, Array.setIfInBounds_comm _ _ (Ne.symm hij)]
      exact h
    · refine any_one hi r6 gi i3 ?_
      rw [Act.put_comm (a.put oj.dst vj) vk vi dik, Act.put_comm a vj vi dij, Array.setIfInBounds_comm _ _ (Ne.symm hik), Array.setIfInBounds_comm _ _ (Ne.symm hij)]
      exact h
/-- a region whose order is open -/
theorem region_open {id : Nat} (n : Nat) (hn : ops.size = n) (hm : P.follows .mixedOrders = true) (h : wpAny P .any ops Q n (Array.replicate n false) a w.drew) : (Code.region id ops true).wp P Q a w := by
  subst hn
  exact wp_region_any hm h
theorem exec_nilc {o : Oper} {x : Operand} {p : Addr} (hop : o.op = .nilCheck x) (hx : a.eval x = .pointer (some p)) : (execOp a.eval o).run P w = .ok (.value (.pointer (some p))) w := by
  unfold execOp
  simp [hop, hx]
/-- the rest in its only order -/
theorem any_rest {l : List Oper} (n : Nat) (hf : fuel = (l.drop n).length) (hB : Region.seqB .any l.toArray (l.drop n).length n listed = true) (h : wpList P l.toArray Q (l.drop n) a w) : wpAny P .any l.toArray Q fuel listed a w := by
  subst hf
  exact wpAny_of_seq (l.drop n) n listed a w (fun j => by simp [List.getElem?_drop]) hB h
theorem exec_move {o : Oper} {x : Operand} (hop : o.op = .move x) (hx : a.eval x = v) : (execOp a.eval o).run P w = .ok (.value v) w := by
  unfold execOp
  simp [hop, hx]
/-- three reads, in any order, and nothing else till then -/
theorem any_reads {i j k : Nat} {oi oj ok : Oper} {vi vj vk : Value} (hi : ops[i]? = some oi) (hj : ops[j]? = some oj) (hk : ops[k]? = some ok) (gi : oi.guard = none) (gj : oj.guard = none) (gk : ok.guard = none)
    (hij : i ≠ j) (hik : i ≠ k) (hjk : j ≠ k) (dij : ∀ d, oj.dst = some d → oi.dst ≠ some d) (dik : ∀ d, ok.dst = some d → oi.dst ≠ some d) (djk : ∀ d, ok.dst = some d → oj.dst ≠ some d)
    (r1 : Region.ready md ops listed = [i, j, k]) (r2 : Region.ready md ops (listed.setIfInBounds i true) = [j, k]) (r3 : Region.ready md ops (listed.setIfInBounds j true) = [i, k]) (r4 : Region.ready md ops (listed.setIfInBounds k true) = [i, j])
    (r5 : Region.ready md ops ((listed.setIfInBounds i true).setIfInBounds j true) = [k]) (r6 : Region.ready md ops ((listed.setIfInBounds i true).setIfInBounds k true) = [j]) (r7 : Region.ready md ops ((listed.setIfInBounds j true).setIfInBounds k true) = [i])
    (xi : ∀ b : Act, (b = a ∨ b = a.put oj.dst vj ∨ b = a.put ok.dst vk ∨ b = (a.put oj.dst vj).put ok.dst vk) → (execOp b.eval oi).run P w = .ok (.value vi) w)
    (xj : ∀ b : Act, (b = a ∨ b = a.put oi.dst vi ∨ b = a.put ok.dst vk ∨ b = (a.put oi.dst vi).put ok.dst vk) → (execOp b.eval oj).run P w = .ok (.value vj) w)
    (xk : ∀ b : Act, (b = a ∨ b = a.put oi.dst vi ∨ b = a.put oj.dst vj ∨ b = (a.put oi.dst vi).put oj.dst vj) → (execOp b.eval ok).run P w = .ok (.value vk) w)
    (h : wpAny P md ops Q fuel (((listed.setIfInBounds i true).setIfInBounds j true).setIfInBounds k true) (((a.put oi.dst vi).put oj.dst vj).put ok.dst vk) w) : wpAny P md ops Q (fuel + 1 + 1 + 1) listed a w := by
  have c1 : ∀ b : Act, (b.put oj.dst vj).put oi.dst vi = (b.put oi.dst vi).put oj.dst vj := fun b => Act.put_comm b vj vi dij
  have c2 : ∀ b : Act, (b.put ok.dst vk).put oi.dst vi = (b.put oi.dst vi).put ok.dst vk := fun b => Act.put_comm b vk vi dik
  have c3 : ∀ b : Act, (b.put ok.dst vk).put oj.dst vj = (b.put oj.dst vj).put ok.dst vk := fun b => Act.put_comm b vk vj djk
  have s1 : (listed.setIfInBounds j true).setIfInBounds i true = (listed.setIfInBounds i true).setIfInBounds j true := Array.setIfInBounds_comm _ _ (Ne.symm hij)
  have s2 : ∀ l : Array Bool, (l.setIfInBounds k true).setIfInBounds i true = (l.setIfInBounds i true).setIfInBounds k true := fun l => Array.setIfInBounds_comm _ _ (Ne.symm hik)
  have s3 : ∀ l : Array Bool, (l.setIfInBounds k true).setIfInBounds j true = (l.setIfInBounds j true).setIfInBounds k true := fun l => Array.setIfInBounds_comm _ _ (Ne.symm hjk)
  refine wpAny_all r1 (by simp) fun n hn => ?_
  simp only [List.mem_cons, List.not_mem_nil, or_false] at hn
  rcases hn with rfl | rfl | rfl
  · refine op_at hi gi (xi a (.inl rfl)) (any_two r2 hj gj (xj _ (.inr (.inl rfl))) hk gk (xk _ (.inr (.inl rfl))) (any_one hk r5 gk (xk _ (.inr (.inr (.inr rfl)))) h) (any_one hj r6 gj (xj _ (.inr (.inr (.inr rfl)))) ?_))
    rw [c3, s3]
    exact h
  · refine op_at hj gj (xj a (.inl rfl)) (any_two r3 hi gi (xi _ (.inr (.inl rfl))) hk gk (xk _ (.inr (.inr (.inl rfl)))) (any_one hk (by rw [s1]; exact r5) gk (by rw [c1]; exact xk _ (.inr (.inr (.inr rfl)))) ?_) (any_one hi r7 gi (xi _ (.inr (.inr (.inr rfl)))) ?_))
    · rw [c1, s1]
      exact h
    · rw [c2, c1, s2, s1]
      exact h
  · refine op_at hk gk (xk a (.inl rfl)) (any_two r4 hi gi (xi _ (.inr (.inr (.inl rfl)))) hj gj (xj _ (.inr (.inr (.inl rfl)))) (any_one hj (by rw [s2]; exact r6) gj (by rw [c2]; exact xj _ (.inr (.inr (.inr rfl)))) ?_) (any_one hi (by rw [s3]; exact r7) gi (by rw [c3]; exact xi _ (.inr (.inr (.inr rfl)))) ?_))
    · rw [c2, c3, s2, s3]
      exact h
    · rw [c3, c2, c1, s3, s2, s1]
      exact h
end
section
variable {a : Act} {w : World} {o : Oper} {x : Operand}
theorem exec_int {p : Addr} {v : Value} (hop : o.op = .load 3 x) (hx : a.eval x = .pointer (some p)) (hc : w.cell? p = some v) : (execOp a.eval o).run Tryz.prog w = .ok (.value v) w := by
  unfold execOp
  simp only [hop, hx]
  simp [go_sem, hc]
theorem exec_buildI {y : Int} (hop : o.op = .buildSlice 22 1 #[(0, x)]) (hx : a.eval x = .int .i64 y) :
    (execOp a.eval o).run Tryz.prog w = .ok (.value (.slice (some ⟨w.heap.size, 0, none⟩) 1 1)) (w.alloc (.cells #[.int .i64 y] 3)) := by
  obtain ⟨i, hi, hz, hs, _⟩ := info_parts (P := Tryz.prog) (e := 3) (z := .int .i64 0) (size := 1) (bytes := 8) (by kernel_rfl)
  have hrun := run_buildSlice (P := Tryz.prog) w 22 3 1 #[(0, .int .i64 y)] #[.int .i64 y] i (.int .i64 0) Tryz.underlying22 hi hz (by rw [hs]; omega) (by rw [hs]; omega) (by
    rw [hs]
    exact Go.Great.fill_flat [Value.int .i64 y] _ (fun v hv => by simp only [List.mem_singleton] at hv; subst hv; rfl) (by simp))
  unfold execOp
  simp only [hop, List.map_toArray, List.map_cons, List.map_nil, hx, Sem.run_bind, hrun, Result.andThen_ok, Sem.run_pure]
end
end Go.Proofs.YtidjjaginindoaaGreat

/-! OrdSpec -/
namespace Go.Proofs.YtidjjaginindoaaGreat

/-- x comes into what lies there so far, the last one first -/
def insG (cl : Int → Int) (x : Int) : List Int → List Int
  | [] => [x]
  | y :: r => if cl x ≠ 0 ∧ cl x < cl y then y :: insG cl x r else x :: y :: r
def putFrom (cl : Int → Int) (s acc : List Int) : List Int := s.foldl (fun a x => insG cl x a) acc
def putO (cl : Int → Int) (s : List Int) : List Int := (putFrom cl s []).reverse
/-- no number of a class other than 0 directly behind one of a greater class -/
def ordG (cl : Int → Int) : List Int → Bool
  | a :: b :: r => !decide (cl b ≠ 0 ∧ cl b < cl a) && ordG cl (b :: r)
  | _ => true

variable {cl : Int → Int}
theorem ins_len (x : Int) : ∀ acc : List Int, (insG cl x acc).length = acc.length + 1
  | [] => rfl
  | y :: r => by
    rw [insG]
    split
    · rw [List.length_cons, ins_len x r, List.length_cons]
    · rw [List.length_cons, List.length_cons]
theorem from_len : ∀ (s acc : List Int), (putFrom cl s acc).length = acc.length + s.length
  | [], acc => rfl
  | x :: s, acc => by
    show (putFrom cl s (insG cl x acc)).length = _
    rw [from_len s, ins_len, List.length_cons]
    omega
theorem putO_len (s : List Int) : (putO cl s).length = s.length := by
  unfold putO
  rw [List.length_reverse, from_len]
  simp
theorem from_app (a b acc : List Int) : putFrom cl (a ++ b) acc = putFrom cl b (putFrom cl a acc) := List.foldl_append ..
theorem ins_zero {x : Int} (h : cl x = 0) (acc : List Int) : insG cl x acc = x :: acc := by
  cases acc with
  | nil => rfl
  | cons y r => rw [insG, if_neg (fun k => k.1 h)]
/-- nothing comes past a number of class 0 -/
theorem ins_wall (hp : ∀ c, 0 ≤ cl c) (x : Int) {A : List Int} (hA : A = [] ∨ ∃ z r, A = z :: r ∧ cl z = 0) : ∀ acc : List Int, insG cl x (acc ++ A) = insG cl x acc ++ A
  | [] => by
    rcases hA with rfl | ⟨z, r, rfl, hz⟩
    · rfl
    · show insG cl x (z :: r) = x :: z :: r
      rw [insG, if_neg (fun k => by have := hp x; omega)]
  | y :: acc => by
    show insG cl x (y :: (acc ++ A)) = _
    rw [insG, insG]
    split
    · rw [ins_wall hp x hA acc]; rfl
    · rfl
theorem from_wall (hp : ∀ c, 0 ≤ cl c) {A : List Int} (hA : A = [] ∨ ∃ z r, A = z :: r ∧ cl z = 0) : ∀ (s acc : List Int), putFrom cl s (acc ++ A) = putFrom cl s acc ++ A
  | [], _ => rfl
  | x :: s, acc => by
    show putFrom cl s (insG cl x (acc ++ A)) = putFrom cl s (insG cl x acc) ++ A
    rw [ins_wall hp x hA, from_wall hp hA s]
/-- behind a number of class 0, what follows is put in order by itself -/
theorem put_behind (hp : ∀ c, 0 ≤ cl c) {z : Int} (hz : cl z = 0) (a b : List Int) : putO cl (a ++ z :: b) = putO cl a ++ z :: putO cl b := by
  unfold putO
  rw [from_app]
  show (putFrom cl b (insG cl z (putFrom cl a []))).reverse = _
  rw [ins_zero hz]
  have := from_wall (cl := cl) hp (A := z :: putFrom cl a []) (.inr ⟨_, _, rfl, hz⟩) b []
  rw [List.nil_append] at this
  rw [this]
  simp
theorem put_zero (hp : ∀ c, 0 ≤ cl c) {z : Int} (hz : cl z = 0) (b : List Int) : putO cl (z :: b) = z :: putO cl b := put_behind hp hz [] b
theorem put_parts (hp : ∀ c, 0 ≤ cl c) (a : List Int) {b : List Int} (hb : b = [] ∨ ∃ z r, b = z :: r ∧ cl z = 0) : putO cl (a ++ b) = putO cl a ++ putO cl b := by
  rcases hb with rfl | ⟨z, r, rfl, hz⟩
  · rw [List.append_nil]
    exact (List.append_nil _).symm
  · rw [put_behind hp hz, put_zero hp hz]
/-- the last number first: in order -/
def ordR (cl : Int → Int) : List Int → Prop
  | y :: z :: r => ¬ (cl y ≠ 0 ∧ cl y < cl z) ∧ ordR cl (z :: r)
  | _ => True
theorem ordR_tail {y : Int} {r : List Int} (h : ordR cl (y :: r)) : ordR cl r := by
  cases r with
  | nil => trivial
  | cons z r => exact h.2
theorem ins_ord (hp : ∀ c, 0 ≤ cl c) (x : Int) : ∀ acc : List Int, ordR cl acc → ordR cl (insG cl x acc)
  | [], _ => trivial
  | y :: r, h => by
    rw [insG]
    split
    · rename_i hc
      have ih := ins_ord hp x r (ordR_tail h)
      cases r with
      | nil =>
        rw [insG] at ih ⊢
        exact ⟨by omega, trivial⟩
      | cons z r =>
        rw [insG] at ih ⊢
        split
        · rename_i h2
          rw [if_pos h2] at ih
          exact ⟨h.1, ih⟩
        · rename_i h2
          rw [if_neg h2] at ih
          exact ⟨by omega, ih⟩
    · rename_i hc
      exact ⟨hc, h⟩
theorem from_ord (hp : ∀ c, 0 ≤ cl c) : ∀ (s acc : List Int), ordR cl acc → ordR cl (putFrom cl s acc)
  | [], _, h => h
  | x :: s, acc, h => from_ord hp s _ (ins_ord hp x acc h)
theorem ord_app : ∀ (l : List Int) (a : Int), ordG cl (l ++ [a]) = (ordG cl l && !decide (∃ b, l.getLast? = some b ∧ cl a ≠ 0 ∧ cl a < cl b))
  | [], a => by simp [ordG]
  | [b], a => by
    show (!decide (cl a ≠ 0 ∧ cl a < cl b) && true) = _
    simp [ordG]
  | b :: c :: l, a => by
    show (!decide (cl c ≠ 0 ∧ cl c < cl b) && ordG cl (c :: l ++ [a])) = ((!decide (cl c ≠ 0 ∧ cl c < cl b) && ordG cl (c :: l)) && _)
    rw [ord_app (c :: l) a, Bool.and_assoc, List.getLast?_cons_cons]
theorem ord_rev : ∀ l : List Int, ordG cl l.reverse = true ↔ ordR cl l
  | [] => by simp [ordG, ordR]
  | [y] => by simp [ordG, ordR]
  | y :: z :: r => by
    rw [List.reverse_cons, ord_app, Bool.and_eq_true, ord_rev (z :: r)]
    have e : (z :: r).reverse.getLast? = some z := by rw [List.getLast?_reverse]; rfl
    rw [e]
    constructor
    · rintro ⟨h, k⟩
      refine ⟨fun hc => ?_, h⟩
      simp only [Bool.not_eq_true', decide_eq_false_iff_not] at k
      exact k ⟨z, rfl, hc⟩
    · rintro ⟨k, h⟩
      refine ⟨h, ?_⟩
      simp only [Bool.not_eq_true', decide_eq_false_iff_not]
      rintro ⟨b, hb, hc⟩
      obtain rfl : z = b := by simpa using hb
      exact k hc
theorem put_ord (hp : ∀ c, 0 ≤ cl c) (s : List Int) : ordG cl (putO cl s) = true := (ord_rev _).2 (from_ord hp s [] trivial)
theorem from_stays : ∀ (s acc : List Int), ordR cl (s.reverse ++ acc) → putFrom cl s acc = s.reverse ++ acc
  | [], _, _ => rfl
  | x :: s, acc, h => by
    show putFrom cl s (insG cl x acc) = _
    rw [List.reverse_cons, List.append_assoc] at h ⊢
    have key : ∀ l : List Int, ordR cl (l ++ ([x] ++ acc)) → insG cl x acc = x :: acc := fun l => by
      induction l with
      | nil =>
        intro h
        cases acc with
        | nil => rfl
        | cons y r => rw [insG, if_neg h.1]
      | cons _ _ ih => exact fun h => ih (ordR_tail h)
    rw [key s.reverse h]
    exact from_stays s (x :: acc) h
theorem put_same {s : List Int} (h : ordG cl s = true) : putO cl s = s := by
  unfold putO
  rw [from_stays s [] (by rw [List.append_nil]; exact (ord_rev _).1 (by rwa [List.reverse_reverse]))]
  simp
theorem put_iff (hp : ∀ c, 0 ≤ cl c) (s : List Int) : ordG cl s = decide (putO cl s = s) := by
  rw [Bool.eq_iff_iff, decide_eq_true_iff]
  exact ⟨put_same, fun h => by rw [← h]; exact put_ord hp s⟩
theorem put_twice (hp : ∀ c, 0 ≤ cl c) (s : List Int) : putO cl (putO cl s) = putO cl s := put_same (put_ord hp s)
/-- the numbers of one class keep their order -/
theorem ins_class (k x : Int) : ∀ acc : List Int, (insG cl x acc).filter (fun c => cl c == k) = if cl x == k then x :: acc.filter (fun c => cl c == k) else acc.filter (fun c => cl c == k)
  | [] => by
    show List.filter _ [x] = _
    by_cases h : cl x == k
    · simp [h]
    · simp [h]
  | y :: r => by
    rw [insG]
    split
    · rename_i hc
      rw [List.filter_cons, ins_class k x r, List.filter_cons]
      by_cases h : cl x == k
      · have h2 : (cl y == k) = false := by rw [beq_eq_false_iff_ne]; rw [beq_iff_eq] at h; omega
        rw [h, h2]
        rfl
      · rw [if_neg h, if_neg h]
    · rw [List.filter_cons (x := x)]
theorem from_class (k : Int) : ∀ (s acc : List Int), (putFrom cl s acc).filter (fun c => cl c == k) = (s.filter (fun c => cl c == k)).reverse ++ acc.filter (fun c => cl c == k)
  | [], _ => rfl
  | x :: s, acc => by
    show (putFrom cl s (insG cl x acc)).filter _ = _
    rw [from_class k s, ins_class, List.filter_cons]
    by_cases h : cl x == k
    · rw [if_pos h, if_pos h]; simp
    · rw [if_neg h, if_neg h]
theorem put_class (k : Int) (s : List Int) : (putO cl s).filter (fun c => cl c == k) = s.filter (fun c => cl c == k) := by
  unfold putO
  rw [List.filter_reverse, from_class]
  simp
/-- in order, place by place -/
theorem ord_nth : ∀ {s : List Int}, ordG cl s = true → ∀ i, i + 1 < s.length → ¬ (cl (s.getD (i + 1) 0) ≠ 0 ∧ cl (s.getD (i + 1) 0) < cl (s.getD i 0))
  | [], _, _, h => by simp at h
  | [_], _, _, h => by simp at h
  | a :: b :: r, h, 0, _ => by
    rw [ordG, Bool.and_eq_true] at h
    have k := h.1
    simp only [Bool.not_eq_true', decide_eq_false_iff_not] at k
    exact k
  | a :: b :: r, h, i + 1, hi => by
    rw [ordG, Bool.and_eq_true] at h
    exact ord_nth h.2 i (by simpa using hi)
theorem ord_of : ∀ {s : List Int}, (∀ i, i + 1 < s.length → ¬ (cl (s.getD (i + 1) 0) ≠ 0 ∧ cl (s.getD (i + 1) 0) < cl (s.getD i 0))) → ordG cl s = true
  | [], _ => rfl
  | [_], _ => rfl
  | a :: b :: r, h => by
    rw [ordG, Bool.and_eq_true]
    refine ⟨?_, ord_of fun i hi => ?_⟩
    · simp only [Bool.not_eq_true', decide_eq_false_iff_not]
      exact h 0 (by simp)
    exact h (i + 1) (by simpa using hi)
theorem ord_not {s : List Int} {i : Nat} (hi : i + 1 < s.length) (h : cl (s.getD (i + 1) 0) ≠ 0 ∧ cl (s.getD (i + 1) 0) < cl (s.getD i 0)) : ordG cl s = false := by
  cases ho : ordG cl s with
  | false => rfl
  | true => exact absurd h (ord_nth ho i hi)
end Go.Proofs.YtidjjaginindoaaGreat

/-! CompSpec -/
namespace Go.Proofs.YtidjjaginindoaaGreat

/-- something stands between the starter and c -/
def offG (cl : Int → Int) (M : List Int) (c : Int) : Bool :=
  match M.getLast? with
  | none => false
  | some y => cl y == 0 || decide (cl c ≤ cl y)
/-- the list so far: what lies ahead of the starter, the starter, what lies behind it -/
structure Cp where
  p : List Int
  s : Option Int
  m : List Int
def Cp.out (q : Cp) : List Int := q.p ++ (q.s.toList ++ q.m)
def stepG (cl : Int → Int) (two : Int → Int → Int × Bool) (q : Cp) (c : Int) : Cp :=
  match q.s with
  | none => if cl c = 0 then ⟨q.p ++ q.m, some c, []⟩ else ⟨q.p, none, q.m ++ [c]⟩
  | some S => if (two S c).2 && !offG cl q.m c then ⟨q.p, some (two S c).1, q.m⟩ else if cl c = 0 then ⟨q.p ++ S :: q.m, some c, []⟩ else ⟨q.p, some S, q.m ++ [c]⟩
def fromG (cl : Int → Int) (two : Int → Int → Int × Bool) (s : List Int) : Cp := s.foldl (stepG cl two) ⟨[], none, []⟩
def compG (cl : Int → Int) (two : Int → Int → Int × Bool) (s : List Int) : List Int := (fromG cl two s).out

variable {cl : Int → Int} {two : Int → Int → Int × Bool}
theorem fromG_snoc (s : List Int) (c : Int) : fromG cl two (s ++ [c]) = stepG cl two (fromG cl two s) c := by
  unfold fromG
  rw [List.foldl_append]
  rfl
theorem step_join {q : Cp} {S c : Int} (hs : q.s = some S) (h : (two S c).2 = true) (ho : offG cl q.m c = false) : stepG cl two q c = ⟨q.p, some (two S c).1, q.m⟩ := by
  unfold stepG
  rw [hs]
  simp only [h, ho, Bool.not_false, Bool.and_true, if_true]
theorem step_new {q : Cp} {c : Int} (hc : cl c = 0) (h : ∀ S, q.s = some S → ((two S c).2 && !offG cl q.m c) = false) : stepG cl two q c = ⟨q.out, some c, []⟩ := by
  unfold stepG Cp.out
  cases hs : q.s with
  | none =>
    simp only [hc, if_true]
    rfl
  | some S =>
    simp only [h S hs, hc, if_true]
    rfl
theorem step_add {q : Cp} {c : Int} (hc : cl c ≠ 0) (h : ∀ S, q.s = some S → ((two S c).2 && !offG cl q.m c) = false) : stepG cl two q c = ⟨q.p, q.s, q.m ++ [c]⟩ := by
  unfold stepG
  cases hs : q.s with
  | none => simp only [hc, if_false]
  | some S =>
    simp only [h S hs, hc, if_false]
    rfl
theorem out_add (q : Cp) (c : Int) : (⟨q.p, q.s, q.m ++ [c]⟩ : Cp).out = q.out ++ [c] := by
  unfold Cp.out
  simp
theorem out_new (l : List Int) (c : Int) : (⟨l, some c, []⟩ : Cp).out = l ++ [c] := rfl
theorem step_out (q : Cp) (c : Int) : (∃ S, q.s = some S ∧ ((two S c).2 && !offG cl q.m c) = true ∧ stepG cl two q c = ⟨q.p, some (two S c).1, q.m⟩) ∨ ((∀ S, q.s = some S → ((two S c).2 && !offG cl q.m c) = false) ∧ (stepG cl two q c).out = q.out ++ [c]) := by
  by_cases h : ∃ S, q.s = some S ∧ ((two S c).2 && !offG cl q.m c) = true
  · obtain ⟨S, hs, hh⟩ := h
    refine .inl ⟨S, hs, hh, ?_⟩
    rw [Bool.and_eq_true, Bool.not_eq_true'] at hh
    exact step_join hs hh.1 hh.2
  · have hn : ∀ S, q.s = some S → ((two S c).2 && !offG cl q.m c) = false := fun S hs => by
      cases hb : ((two S c).2 && !offG cl q.m c) with
      | false => rfl
      | true => exact absurd ⟨S, hs, hb⟩ h
    refine .inr ⟨hn, ?_⟩
    by_cases hc : cl c = 0
    · rw [step_new hc hn]; rfl
    · rw [step_add hc hn, out_add]
theorem step_len (q : Cp) (c : Int) : (stepG cl two q c).out.length ≤ q.out.length + 1 := by
  rcases step_out (cl := cl) (two := two) q c with ⟨S, hs, -, he⟩ | ⟨-, he⟩
  · rw [he]
    unfold Cp.out
    rw [hs]
    simp
  · rw [he, List.length_append]
    exact Nat.le_refl _
theorem comp_len (s : List Int) : (compG cl two s).length ≤ s.length := by
  have key : ∀ (s : List Int) (q : Cp), (s.foldl (stepG cl two) q).out.length ≤ q.out.length + s.length := fun s => by
    induction s with
    | nil => intro q; exact Nat.le_refl _
    | cons c s ih =>
      intro q
      have h1 := ih (stepG cl two q c)
      have h2 := step_len (cl := cl) (two := two) q c
      rw [List.foldl_cons, List.length_cons]
      omega
  have h := key s ⟨[], none, []⟩
  rw [show ((⟨[], none, []⟩ : Cp).out).length = 0 from rfl, Nat.zero_add] at h
  exact h
/-- what holds of the numbers and of all that two of them make holds of the composition -/
theorem comp_all {R : Int → Prop} (h2 : ∀ a b, (two a b).2 = true → R (two a b).1) (s : List Int) (hs : ∀ x ∈ s, R x) : ∀ x ∈ compG cl two s, R x := by
  have key : ∀ (s : List Int) (q : Cp), (∀ x ∈ s, R x) → (∀ x ∈ q.out, R x) → ∀ x ∈ (s.foldl (stepG cl two) q).out, R x := fun s => by
    induction s with
    | nil => intro q _ h; exact h
    | cons c s ih =>
      intro q hs hq
      rw [List.foldl_cons]
      refine ih _ (fun x hx => hs x (List.mem_cons_of_mem _ hx)) ?_
      rcases step_out (cl := cl) (two := two) q c with ⟨S, hss, hh, he⟩ | ⟨-, he⟩
      · rw [he]
        rw [Bool.and_eq_true] at hh
        intro x hx
        unfold Cp.out at hx hq
        simp only [Option.toList_some, List.mem_append, List.mem_cons, List.not_mem_nil, or_false] at hx
        rcases hx with hx | rfl | hx
        · exact hq x (by simp [hx])
        · exact h2 S c hh.1
        · exact hq x (by simp [hx])
      · rw [he]
        intro x hx
        rcases List.mem_append.1 hx with hx | hx
        · exact hq x hx
        · obtain rfl : x = c := by simpa using hx
          exact hs x (by simp)
  exact key s ⟨[], none, []⟩ hs (by intro x hx; cases hx)
/-- two numbers alone -/
theorem comp_two (h2 : ∀ a b, (two a b).2 = true → cl a = 0) (a b : Int) : compG cl two [a, b] = if (two a b).2 then [(two a b).1] else [a, b] := by
  unfold compG fromG
  rw [List.foldl_cons, List.foldl_cons, List.foldl_nil]
  by_cases ha : cl a = 0
  · rw [step_new ha (by intro S h; cases h)]
    by_cases hb : (two a b).2 = true
    · rw [step_join (S := a) rfl hb rfl, if_pos hb]
      rfl
    · have hn : ∀ S, some a = some S → ((two S b).2 && !offG cl ([] : List Int) b) = false := fun S h => by
        cases h
        rw [Bool.not_eq_true] at hb
        rw [hb]
        rfl
      rw [if_neg hb]
      by_cases hc : cl b = 0
      · rw [step_new hc hn]; rfl
      · rw [step_add hc hn]; rfl
  · rw [step_add ha (by intro S h; cases h), if_neg (fun h => ha (h2 a b h))]
    have hn : ∀ S, (none : Option Int) = some S → ((two S b).2 && !offG cl ([] ++ [a] : List Int) b) = false := fun S h => by cases h
    by_cases hc : cl b = 0
    · rw [step_new hc hn]; rfl
    · rw [step_add hc hn]; rfl
/-- a letter and two marks -/
theorem comp_three {l a b : Int} (hl : cl l = 0) (ha : cl a ≠ 0) : compG cl two [l, a, b] =
    if (two l a).2 then (if (two (two l a).1 b).2 then [(two (two l a).1 b).1] else [(two l a).1, b])
    else if (two l b).2 && !decide (cl b ≤ cl a) then [(two l b).1, a] else [l, a, b] := by
  unfold compG fromG
  rw [List.foldl_cons, List.foldl_cons, List.foldl_cons, List.foldl_nil, step_new hl (by intro S h; cases h)]
  by_cases h1 : (two l a).2 = true
  · rw [step_join (S := l) rfl h1 rfl, if_pos h1]
    by_cases h3 : (two (two l a).1 b).2 = true
    · rw [step_join (S := (two l a).1) rfl h3 rfl, if_pos h3]
      rfl
    · rw [if_neg h3]
      have hn : ∀ S, some (two l a).1 = some S → ((two S b).2 && !offG cl ([] : List Int) b) = false := fun S h => by
        cases h
        rw [Bool.not_eq_true] at h3
        rw [h3]
        rfl
      by_cases hc : cl b = 0
      · rw [step_new hc hn]; rfl
      · rw [step_add hc hn]; rfl
  · rw [if_neg h1, step_add ha (by
      intro S h
      cases h
      rw [Bool.not_eq_true] at h1
      rw [h1]
      rfl)]
    have ho : offG cl ([] ++ [a] : List Int) b = decide (cl b ≤ cl a) := by
      show (cl a == 0 || decide (cl b ≤ cl a)) = _
      rw [show (cl a == 0) = false from beq_eq_false_iff_ne.2 ha]
      rfl
    by_cases h2 : ((two l b).2 && !decide (cl b ≤ cl a)) = true
    · rw [if_pos h2]
      rw [Bool.and_eq_true, Bool.not_eq_true'] at h2
      rw [step_join (S := l) rfl h2.1 (by rw [← ho] at h2; exact h2.2)]
      rfl
    · rw [if_neg h2]
      have hn : ∀ S, some l = some S → ((two S b).2 && !offG cl ([] ++ [a] : List Int) b) = false := fun S h => by
        cases h
        rw [ho]
        rw [Bool.not_eq_true] at h2
        exact h2
      by_cases hc : cl b = 0
      · rw [step_new hc hn]; rfl
      · rw [step_add hc hn]; rfl
end Go.Proofs.YtidjjaginindoaaGreat

/-! OrdProj -/
namespace Go.Proofs.YtidjjaginindoaaGreat

def projG (cl : Int → Int) (k : Int) (s : List Int) : List Int := s.filter (fun c => cl c == 0 || cl c == k)
variable {cl : Int → Int}
theorem proj_app (k : Int) (a b : List Int) : projG cl k (a ++ b) = projG cl k a ++ projG cl k b := List.filter_append ..
theorem proj_cons (k x : Int) (s : List Int) : projG cl k (x :: s) = if (cl x == 0 || cl x == k) then x :: projG cl k s else projG cl k s := List.filter_cons
theorem ins_proj (hp : ∀ c, 0 ≤ cl c) (k x : Int) : ∀ acc : List Int, projG cl k (insG cl x acc) = if (cl x == 0 || cl x == k) then x :: projG cl k acc else projG cl k acc
  | [] => by rw [insG, proj_cons]
  | y :: r => by
    rw [insG]
    split
    · rename_i hc
      rw [proj_cons, ins_proj hp k x r, proj_cons]
      by_cases h : (cl x == 0 || cl x == k) = true
      · have h2 : (cl y == 0 || cl y == k) = false := by
          have := hp x
          simp only [Bool.or_eq_true, beq_iff_eq] at h
          simp only [Bool.or_eq_false_iff, beq_eq_false_iff_ne]
          omega
        rw [h, h2]
        rfl
      · rw [if_neg h, if_neg h]
    · rw [proj_cons k x]
theorem from_proj (hp : ∀ c, 0 ≤ cl c) (k : Int) : ∀ (s acc : List Int), projG cl k (putFrom cl s acc) = (projG cl k s).reverse ++ projG cl k acc
  | [], _ => rfl
  | x :: s, acc => by
    show projG cl k (putFrom cl s (insG cl x acc)) = _
    rw [from_proj hp k s, ins_proj hp, proj_cons]
    by_cases h : (cl x == 0 || cl x == k) = true
    · rw [if_pos h, if_pos h]; simp
    · rw [if_neg h, if_neg h]
theorem put_proj (hp : ∀ c, 0 ≤ cl c) (k : Int) (s : List Int) : projG cl k (putO cl s) = projG cl k s := by
  unfold putO
  have := from_proj hp k s []
  unfold projG at this ⊢
  rw [List.filter_reverse, this]
  simp
theorem ord_tail {a : Int} : ∀ {s : List Int}, ordG cl (a :: s) = true → ordG cl s = true
  | [], _ => rfl
  | b :: r, h => by
    rw [ordG, Bool.and_eq_true] at h
    exact h.2
/-- in order behind a number of class m: the first number of class 0 or k, where k is less than m, is of class 0 -/
theorem first_proj {m k : Int} (hk0 : k ≠ 0) (hkm : k < m) : ∀ {b : Int} {s : List Int}, ordG cl (b :: s) = true → m ≤ cl b → cl b ≠ 0 → ∀ x r, projG cl k (b :: s) = x :: r → cl x = 0
  | b, [], _, hb, hb0, x, r, h => by
    have h2 : (cl b == 0 || cl b == k) = false := by
      simp only [Bool.or_eq_false_iff, beq_eq_false_iff_ne]
      omega
    rw [proj_cons, h2] at h
    cases h
  | b, c :: s, ho, hb, hb0, x, r, h => by
    have h2 : (cl b == 0 || cl b == k) = false := by
      simp only [Bool.or_eq_false_iff, beq_eq_false_iff_ne]
      omega
    rw [proj_cons, h2] at h
    simp only [Bool.false_eq_true, if_false] at h
    have ho' := ho
    rw [ordG, Bool.and_eq_true] at ho'
    have hc := ho'.1
    simp only [Bool.not_eq_true', decide_eq_false_iff_not] at hc
    by_cases hc0 : cl c = 0
    · rw [proj_cons, show (cl c == 0 || cl c == k) = true by simp [hc0]] at h
      simp only [if_true] at h
      injection h with h3 _
      rw [← h3]
      exact hc0
    · exact first_proj hk0 hkm ho'.2 (by omega) hc0 x r h
theorem sorted_proj (hp : ∀ c, 0 ≤ cl c) : ∀ {x y : List Int}, ordG cl x = true → ordG cl y = true → (∀ k, projG cl k x = projG cl k y) → x = y
  | [], [], _, _, _ => rfl
  | [], b :: y, _, _, h => by
    have := h (cl b)
    rw [proj_cons] at this
    simp [projG] at this
  | a :: x, [], _, _, h => by
    have := h (cl a)
    rw [proj_cons] at this
    simp [projG] at this
  | a :: x, b :: y, hx, hy, h => by
    have ha := hp a
    have hb := hp b
    have pa : ∀ k, (cl a == 0 || cl a == k) = true → ∃ r, projG cl k (a :: x) = a :: r := fun k hk => ⟨_, by rw [proj_cons, if_pos hk]⟩
    have pb : ∀ k, (cl b == 0 || cl b == k) = true → ∃ r, projG cl k (b :: y) = b :: r := fun k hk => ⟨_, by rw [proj_cons, if_pos hk]⟩
    have e : a = b := by
      obtain ⟨r1, h1⟩ := pa (cl a) (by simp)
      obtain ⟨r2, h2⟩ := pb (cl b) (by simp)
      by_cases ha0 : cl a = 0
      · obtain ⟨r3, h3⟩ := pa (cl b) (by simp [ha0])
        have := h (cl b)
        rw [h3, h2] at this
        injection this
      · by_cases hb0 : cl b = 0
        · obtain ⟨r3, h3⟩ := pb (cl a) (by simp [hb0])
          have := h (cl a)
          rw [h1, h3] at this
          injection this
        · by_cases hab : cl a = cl b
          · have := h (cl a)
            rw [h1, hab, h2] at this
            injection this
          · rcases Int.lt_or_gt_of_ne hab with hl | hl
            · have := h (cl a)
              rw [h1] at this
              exact absurd (first_proj ha0 hl hy (Int.le_refl _) hb0 a r1 this.symm) ha0
            · have := h (cl b)
              rw [h2] at this
              exact absurd (first_proj hb0 hl hx (Int.le_refl _) ha0 b r2 this) hb0
    subst e
    congr 1
    refine sorted_proj hp (ord_tail hx) (ord_tail hy) fun k => ?_
    have := h k
    rw [proj_cons, proj_cons] at this
    by_cases hk : (cl a == 0 || cl a == k) = true
    · rw [if_pos hk, if_pos hk] at this
      injection this
    · rw [if_neg hk, if_neg hk] at this
      exact this
theorem put_of_proj (hp : ∀ c, 0 ≤ cl c) {a b : List Int} (h : ∀ k, projG cl k a = projG cl k b) : putO cl a = putO cl b :=
  sorted_proj hp (put_ord hp a) (put_ord hp b) fun k => by rw [put_proj hp, put_proj hp, h k]
theorem proj_of_put (hp : ∀ c, 0 ≤ cl c) {a b : List Int} (h : putO cl a = putO cl b) (k : Int) : projG cl k a = projG cl k b := by
  rw [← put_proj hp, h, put_proj hp]
/-- numbers of no class of k's, and none of class 0 -/
theorem proj_none {k : Int} {s : List Int} (h : ∀ x ∈ s, cl x ≠ 0 ∧ cl x ≠ k) : projG cl k s = [] := by
  unfold projG
  rw [List.filter_eq_nil_iff]
  intro x hx
  obtain ⟨h1, h2⟩ := h x hx
  simp [h1, h2]
end Go.Proofs.YtidjjaginindoaaGreat

/-! CompSame -/
namespace Go.Proofs.YtidjjaginindoaaGreat

variable {cl : Int → Int} {two : Int → Int → Int × Bool} {o : Int → List Int}
/-- of class 0 and of k's class nothing comes of numbers of other classes -/
theorem flat_none {k : Int} (h2 : ∀ y, cl y ≠ 0 → ∀ x ∈ o y, cl x = cl y) {M : List Int} (hM : ∀ y ∈ M, cl y ≠ 0 ∧ cl y ≠ k) : projG cl k (M.flatMap o) = [] := by
  refine proj_none fun x hx => ?_
  rw [List.mem_flatMap] at hx
  obtain ⟨y, hy, hx⟩ := hx
  obtain ⟨h0, hk⟩ := hM y hy
  rw [h2 y h0 x hx]
  exact ⟨h0, hk⟩
/-- what holds of the list so far, behind the numbers p -/
def InvC (cl : Int → Int) (o : Int → List Int) (q : Cp) (p : List Int) : Prop :=
  (∀ k, projG cl k (q.out.flatMap o) = projG cl k (p.flatMap o)) ∧
  ((∃ S, q.s = some S) → ∀ y ∈ q.m, cl y ≠ 0 ∧ (∃ z, p.getLast? = some z ∧ cl y ≤ cl z) ∧ ∀ z, q.m.getLast? = some z → cl y ≤ cl z)
theorem inv_step (hp : ∀ c, 0 ≤ cl c) (h1 : ∀ S c, (two S c).2 = true → o (two S c).1 = o S ++ o c) (h2 : ∀ y, cl y ≠ 0 → ∀ x ∈ o y, cl x = cl y) {q : Cp} {p : List Int} {c : Int}
    (ho : ordG cl (p ++ [c]) = true) (hi : InvC cl o q p) : InvC cl o (stepG cl two q c) (p ++ [c]) := by
  obtain ⟨hi1, hi2⟩ := hi
  rw [ord_app, Bool.and_eq_true, Bool.not_eq_true', decide_eq_false_iff_not] at ho
  have hadj : ∀ z, p.getLast? = some z → cl c ≠ 0 → cl z ≤ cl c := fun z hz hc => by
    have := ho.2
    have h3 : ¬ (cl c ≠ 0 ∧ cl c < cl z) := fun h => this ⟨z, hz, h⟩
    omega
  by_cases hj : ∃ S, q.s = some S ∧ ((two S c).2 && !offG cl q.m c) = true
  · obtain ⟨S, hs, hh⟩ := hj
    rw [Bool.and_eq_true, Bool.not_eq_true'] at hh
    rw [step_join hs hh.1 hh.2]
    have hM : ∀ y ∈ q.m, cl y ≠ 0 ∧ cl y < cl c := fun y hy => by
      obtain ⟨g1, -, g3⟩ := hi2 ⟨S, hs⟩ y hy
      refine ⟨g1, ?_⟩
      cases hl : q.m.getLast? with
      | none =>
        rw [List.getLast?_eq_none_iff] at hl
        rw [hl] at hy
        cases hy
      | some z =>
        have h4 := hh.2
        unfold offG at h4
        rw [hl] at h4
        simp only [Bool.or_eq_false_iff, decide_eq_false_iff_not] at h4
        have := g3 z hl
        omega
    constructor
    · intro k
      have e1 : (⟨q.p, some (two S c).1, q.m⟩ : Cp).out.flatMap o = q.p.flatMap o ++ (o S ++ o c ++ q.m.flatMap o) := by
        unfold Cp.out
        simp only [List.flatMap_append, Option.toList_some, List.flatMap_cons, List.flatMap_nil, List.append_nil, h1 S c hh.1]
      have e2 : q.out.flatMap o = q.p.flatMap o ++ (o S ++ q.m.flatMap o) := by
        unfold Cp.out
        rw [hs]
        simp only [List.flatMap_append, Option.toList_some, List.flatMap_cons, List.flatMap_nil, List.append_nil]
      have e3 : (p ++ [c]).flatMap o = p.flatMap o ++ o c := by simp
      have e4 : projG cl k (o c) ++ projG cl k (q.m.flatMap o) = projG cl k (q.m.flatMap o) ++ projG cl k (o c) := by
        by_cases hm : q.m = []
        · rw [hm]
          simp [projG]
        · obtain ⟨y, hy⟩ := List.exists_mem_of_ne_nil _ hm
          have hc0 : cl c ≠ 0 := by
            have := (hM y hy).2
            have := hp y
            omega
          by_cases hk : k = cl c
          · rw [flat_none h2 (k := k) (M := q.m) (fun y hy => ⟨(hM y hy).1, by have := (hM y hy).2; omega⟩)]
            simp
          · have := flat_none (k := k) h2 (M := [c]) (fun y hy => by
              obtain rfl : y = c := by simpa using hy
              exact ⟨hc0, fun h => hk h.symm⟩)
            rw [show [c].flatMap o = o c by simp] at this
            rw [this]
            simp
      rw [e1, e3, proj_app, proj_app k (p.flatMap o), ← hi1 k, e2, proj_app, proj_app, proj_app, proj_app, List.append_assoc, e4, List.append_assoc, List.append_assoc]
    · intro _ y hy
      obtain ⟨g1, -, g3⟩ := hi2 ⟨S, hs⟩ y hy
      exact ⟨g1, ⟨c, by simp, by have := (hM y hy).2; omega⟩, g3⟩
  · have hn : ∀ S, q.s = some S → ((two S c).2 && !offG cl q.m c) = false := fun S hs => by
      cases hb : ((two S c).2 && !offG cl q.m c) with
      | false => rfl
      | true => exact absurd ⟨S, hs, hb⟩ hj
    have hout : (stepG cl two q c).out = q.out ++ [c] := by
      by_cases hc : cl c = 0
      · rw [step_new hc hn]; rfl
      · rw [step_add hc hn, out_add]
    constructor
    · intro k
      rw [hout, List.flatMap_append, List.flatMap_append, proj_app, proj_app, hi1 k]
    · by_cases hc : cl c = 0
      · rw [step_new hc hn]
        intro _ y hy
        cases hy
      · rw [step_add hc hn]
        rintro ⟨S, hs⟩ y hy
        have hs' : q.s = some S := hs
        have hy' : y ∈ q.m ++ [c] := hy
        rw [List.mem_append] at hy'
        have hle : cl y ≠ 0 ∧ cl y ≤ cl c := by
          rcases hy' with hy' | hy'
          · obtain ⟨g1, ⟨z, hz, hz2⟩, -⟩ := hi2 ⟨S, hs'⟩ y hy'
            have := hadj z hz hc
            exact ⟨g1, by omega⟩
          · obtain rfl : y = c := by simpa using hy'
            exact ⟨hc, Int.le_refl _⟩
        refine ⟨hle.1, ⟨c, by simp, hle.2⟩, fun z hz => ?_⟩
        have hz' : (q.m ++ [c]).getLast? = some z := hz
        rw [List.getLast?_append] at hz'
        obtain rfl : c = z := by simpa using hz'
        exact hle.2
theorem ord_prefix : ∀ {a b : List Int}, ordG cl (a ++ b) = true → ordG cl a = true
  | [], _, _ => rfl
  | [x], _, _ => rfl
  | x :: y :: a, b, h => by
    have h' : ordG cl (x :: y :: (a ++ b)) = true := h
    rw [ordG, Bool.and_eq_true] at h' ⊢
    exact ⟨h'.1, ord_prefix (a := y :: a) h'.2⟩
theorem comp_proj (hp : ∀ c, 0 ≤ cl c) (h1 : ∀ S c, (two S c).2 = true → o (two S c).1 = o S ++ o c) (h2 : ∀ y, cl y ≠ 0 → ∀ x ∈ o y, cl x = cl y) (s : List Int) (hs : ordG cl s = true) (k : Int) :
    projG cl k ((compG cl two s).flatMap o) = projG cl k (s.flatMap o) := by
  have key : ∀ n, n ≤ s.length → InvC cl o (fromG cl two (s.take n)) (s.take n) := fun n => by
    induction n with
    | zero => intro _; exact ⟨fun _ => rfl, fun _ y hy => by cases hy⟩
    | succ n ih =>
      intro hn
      have e : s.take (n + 1) = s.take n ++ [s[n]] := List.take_succ_eq_append_getElem hn
      have hord : ordG cl (s.take n ++ [s[n]]) = true := by
        rw [← e]
        exact ord_prefix (b := s.drop (n + 1)) (by rw [List.take_append_drop]; exact hs)
      rw [e, fromG_snoc]
      exact inv_step hp h1 h2 hord (ih (by omega))
  have := (key s.length (Nat.le_refl _)).1 k
  rw [List.take_length] at this
  exact this
theorem comp_same (hp : ∀ c, 0 ≤ cl c) (h1 : ∀ S c, (two S c).2 = true → o (two S c).1 = o S ++ o c) (h2 : ∀ y, cl y ≠ 0 → ∀ x ∈ o y, cl x = cl y) (s : List Int) (hs : ordG cl s = true) :
    putO cl ((compG cl two s).flatMap o) = putO cl (s.flatMap o) := put_of_proj hp (comp_proj hp h1 h2 s hs)
end Go.Proofs.YtidjjaginindoaaGreat

/-! FlatProj -/
namespace Go.Proofs.YtidjjaginindoaaGreat

variable {cl : Int → Int} {o : Int → List Int}
/-- two numbers of unlike classes other than 0 may change places before they come apart -/
theorem flat_turn (h2 : ∀ y, cl y ≠ 0 → ∀ x ∈ o y, cl x = cl y) {x y : Int} (hx : cl x ≠ 0) (hy : cl y ≠ 0) (hxy : cl x ≠ cl y) (k : Int) : projG cl k (o x ++ o y) = projG cl k (o y ++ o x) := by
  have hn : ∀ z, cl z ≠ 0 → cl z ≠ k → projG cl k (o z) = [] := fun z h0 hk => by
    have := flat_none (k := k) h2 (M := [z]) (fun y hy => by
      obtain rfl : y = z := by simpa using hy
      exact ⟨h0, hk⟩)
    simpa using this
  rw [proj_app, proj_app]
  by_cases hk : k = cl x
  · rw [hn y hy (fun h => hxy (by rw [← hk, h]))]
    simp
  · rw [hn x hx (fun h => hk h.symm)]
    simp
theorem ins_flat (h2 : ∀ y, cl y ≠ 0 → ∀ x ∈ o y, cl x = cl y) (hp : ∀ c, 0 ≤ cl c) (x : Int) : ∀ (acc : List Int) (k : Int), projG cl k ((insG cl x acc).reverse.flatMap o) = projG cl k ((x :: acc).reverse.flatMap o)
  | [], _ => rfl
  | y :: r, k => by
    rw [insG]
    split
    · rename_i hc
      have ih := ins_flat h2 hp x r k
      have hx := hp x
      rw [List.reverse_cons, List.flatMap_append, proj_app, ih]
      rw [List.reverse_cons, List.reverse_cons, List.reverse_cons, List.flatMap_append, List.flatMap_append, List.flatMap_append]
      have e := flat_turn (k := k) h2 (x := x) (y := y) hc.1 (by omega) (by omega)
      simp only [List.flatMap_cons, List.flatMap_nil, List.append_nil, List.append_assoc]
      rw [proj_app, List.append_assoc, ← proj_app, e, ← proj_app]
    · rfl
theorem from_flat (h2 : ∀ y, cl y ≠ 0 → ∀ x ∈ o y, cl x = cl y) (hp : ∀ c, 0 ≤ cl c) : ∀ (s acc : List Int) (k : Int), projG cl k ((putFrom cl s acc).reverse.flatMap o) = projG cl k ((acc.reverse ++ s).flatMap o)
  | [], acc, k => by rw [List.append_nil]; rfl
  | x :: s, acc, k => by
    show projG cl k ((putFrom cl s (insG cl x acc)).reverse.flatMap o) = _
    rw [from_flat h2 hp s, List.flatMap_append, proj_app, ins_flat h2 hp, ← proj_app, ← List.flatMap_append, List.reverse_cons, List.append_assoc]
    rfl
/-- what is put in order comes apart to the same, up to the order -/
theorem put_flat (h2 : ∀ y, cl y ≠ 0 → ∀ x ∈ o y, cl x = cl y) (hp : ∀ c, 0 ≤ cl c) (s : List Int) : putO cl ((putO cl s).flatMap o) = putO cl (s.flatMap o) :=
  put_of_proj hp fun k => from_flat h2 hp s [] k
theorem turn_flat (h2 : ∀ y, cl y ≠ 0 → ∀ x ∈ o y, cl x = cl y) (hp : ∀ c, 0 ≤ cl c) {x y : Int} (hx : cl x ≠ 0) (hy : cl y ≠ 0) (hxy : cl x ≠ cl y) (a b : List Int) : putO cl ((a ++ x :: y :: b).flatMap o) = putO cl ((a ++ y :: x :: b).flatMap o) :=
  put_of_proj hp fun k => by
    have e := flat_turn (k := k) h2 hx hy hxy
    rw [proj_app, proj_app] at e
    simp only [List.flatMap_append, List.flatMap_cons, proj_app]
    rw [← List.append_assoc (projG cl k (o x)), e, List.append_assoc]
end Go.Proofs.YtidjjaginindoaaGreat

/-! OrdMid -/
namespace Go.Proofs.YtidjjaginindoaaGreat

/-- A (the last one first) lies there, x has come past m of them -/
def mid (A : List Int) (x : Int) (m : Nat) (T : List Int) : List Int := (A.drop m).reverse ++ x :: ((A.take m).reverse ++ T)
theorem mid_len {A T : List Int} {x : Int} {m : Nat} (h : m ≤ A.length) : (mid A x m T).length = A.length + 1 + T.length := by
  unfold mid
  simp only [List.length_append, List.length_cons, List.length_reverse, List.length_drop, List.length_take]
  omega
theorem mid_zero (A T : List Int) (x : Int) : mid A x 0 T = A.reverse ++ x :: T := by
  unfold mid
  simp
theorem mid_at {A T : List Int} {x : Int} {m k : Nat} (hk : A.length = k + m) : (mid A x m T).getD k 0 = x := by
  have hl : k = (A.drop m).reverse.length := by rw [List.length_reverse, List.length_drop]; omega
  unfold mid
  rw [hl, List.getD_eq_getElem?_getD]
  simp
theorem mid_split {A T : List Int} {x : Int} {m k : Nat} (hk : A.length = k + 1 + m) : mid A x m T = (A.drop (m + 1)).reverse ++ (A.getD m 0) :: x :: ((A.take m).reverse ++ T) := by
  have hm : m < A.length := by omega
  unfold mid
  have e : A.getD m 0 = A[m] := by rw [List.getD_eq_getElem?_getD, List.getElem?_eq_getElem hm]; rfl
  rw [e, List.drop_eq_getElem_cons hm, List.reverse_cons, List.append_assoc]
  rfl
theorem mid_prev {A T : List Int} {x : Int} {m k : Nat} (hk : A.length = k + 1 + m) : (mid A x m T).getD k 0 = A.getD m 0 := by
  have hl : k = (A.drop (m + 1)).reverse.length := by rw [List.length_reverse, List.length_drop]; omega
  rw [mid_split hk]
  conv => lhs; rw [hl]
  rw [List.getD_eq_getElem?_getD]
  simp
theorem mid_next {A T : List Int} {x : Int} {m k : Nat} (hk : A.length = k + 1 + m) : mid A x (m + 1) T = (A.drop (m + 1)).reverse ++ x :: (A.getD m 0) :: ((A.take m).reverse ++ T) := by
  have hm : m < A.length := by omega
  unfold mid
  have e : A.getD m 0 = A[m] := by rw [List.getD_eq_getElem?_getD, List.getElem?_eq_getElem hm]; rfl
  rw [e, List.take_succ_eq_append_getElem hm, List.reverse_append]
  rfl
theorem mid_swap {A T : List Int} {x : Int} {m k : Nat} (hk : A.length = k + 1 + m) : ((mid A x m T).set (k + 1) (A.getD m 0)).set k x = mid A x (m + 1) T := by
  have hl : k = (A.drop (m + 1)).reverse.length := by rw [List.length_reverse, List.length_drop]; omega
  rw [mid_split hk, mid_next hk]
  generalize (A.drop (m + 1)).reverse = L at hl ⊢
  subst hl
  simp
/-- the same with the hole filled later: what lies at k + 1 comes from k -/
theorem mid_shift {A T L : List Int} {x : Int} {m k : Nat} (hk : A.length = k + 1 + m) (_hL : L.length = A.length + 1 + T.length) (h : L.set (k + 1) x = mid A x m T) : (L.set (k + 1) (L.getD k 0)).set k x = mid A x (m + 1) T := by
  have h0 : L.getD k 0 = A.getD m 0 := by
    have := mid_prev (T := T) (x := x) hk
    rw [← h, List.getD_eq_getElem?_getD, List.getElem?_set_ne (by omega), ← List.getD_eq_getElem?_getD] at this
    exact this
  rw [← mid_swap (T := T) (x := x) hk, ← h, h0, List.set_set]
variable {cl : Int → Int}
theorem ins_at (x : Int) : ∀ (A : List Int) (m : Nat), m ≤ A.length → (∀ y ∈ A.take m, cl x ≠ 0 ∧ cl x < cl y) → (m = A.length ∨ ¬ (cl x ≠ 0 ∧ cl x < cl (A.getD m 0))) → insG cl x A = A.take m ++ x :: A.drop m
  | [], m, hm, _, _ => by
    obtain rfl : m = 0 := by simpa using hm
    rfl
  | y :: r, 0, _, _, h => by
    have h2 : ¬ (cl x ≠ 0 ∧ cl x < cl y) := by
      rcases h with h | h
      · simp at h
      · simpa using h
    rw [insG, if_neg h2]
    rfl
  | y :: r, m + 1, hm, ha, h => by
    rw [insG, if_pos (ha y (by simp)), ins_at x r m (by simpa using hm) (fun z hz => ha z (by simp [hz])) (by simpa using h)]
    rfl
theorem mid_end {A T : List Int} {x : Int} {m : Nat} (hm : m ≤ A.length) (ha : ∀ y ∈ A.take m, cl x ≠ 0 ∧ cl x < cl y) (h : m = A.length ∨ ¬ (cl x ≠ 0 ∧ cl x < cl (A.getD m 0))) : mid A x m T = (insG cl x A).reverse ++ T := by
  rw [ins_at x A m hm ha h]
  unfold mid
  simp
theorem pass_next {A : List Int} {x : Int} {m : Nat} (hm : m < A.length) (ha : ∀ y ∈ A.take m, cl x ≠ 0 ∧ cl x < cl y) (h : cl x ≠ 0 ∧ cl x < cl (A.getD m 0)) : ∀ y ∈ A.take (m + 1), cl x ≠ 0 ∧ cl x < cl y := by
  intro y hy
  rw [List.take_succ_eq_append_getElem hm, List.mem_append] at hy
  rcases hy with hy | hy
  · exact ha y hy
  · have e : A.getD m 0 = A[m] := by rw [List.getD_eq_getElem?_getD, List.getElem?_eq_getElem hm]; rfl
    rw [e] at h
    obtain rfl : y = A[m] := by simpa using hy
    exact h
/-- the numbers up to i in order, the others as they came -/
def partO (cl : Int → Int) (s : List Int) (i : Nat) : List Int := (putFrom cl (s.take i) []).reverse ++ s.drop i
theorem part_len (s : List Int) (i : Nat) : (partO cl s i).length = s.length := by
  unfold partO
  rw [List.length_append, List.length_reverse, from_len, List.length_drop, List.length_nil, List.length_take]
  omega
theorem part_one (s : List Int) : partO cl s 1 = s := by
  unfold partO
  cases s with
  | nil => rfl
  | cons x r => rfl
theorem part_zero (s : List Int) : partO cl s 0 = s := rfl
theorem part_all (s : List Int) {i : Nat} (h : s.length ≤ i) : partO cl s i = putO cl s := by
  unfold partO putO
  rw [List.take_of_length_le h, List.drop_eq_nil_of_le h, List.append_nil]
theorem part_mid (s : List Int) {i : Nat} (h : i < s.length) : partO cl s i = mid (putFrom cl (s.take i) []) (s.getD i 0) 0 (s.drop (i + 1)) := by
  rw [mid_zero]
  unfold partO
  have e : s.getD i 0 = s[i] := by rw [List.getD_eq_getElem?_getD, List.getElem?_eq_getElem h]; rfl
  rw [e, List.drop_eq_getElem_cons h]
theorem part_next (s : List Int) {i : Nat} (h : i < s.length) : partO cl s (i + 1) = (insG cl (s.getD i 0) (putFrom cl (s.take i) [])).reverse ++ s.drop (i + 1) := by
  unfold partO
  have e : s.getD i 0 = s[i] := by rw [List.getD_eq_getElem?_getD, List.getElem?_eq_getElem h]; rfl
  rw [e, List.take_succ_eq_append_getElem h, from_app]
  rfl
theorem acc_len (s : List Int) {i : Nat} (h : i ≤ s.length) : (putFrom cl (s.take i) []).length = i := by
  rw [from_len, List.length_take, List.length_nil]
  omega
end Go.Proofs.YtidjjaginindoaaGreat
