/- Several texts in one: ApiCanon, ApiCodes, ApiCodes2. -/
import Derived.Test.YtkjhbfcblnbkfaaPk7
import Derived.Test.YtkjhbfcblnbkfaaPk2
import Derived.Test.YtkjhbfcblnbkfaaPk1
import Derived.Test.YtkjhbfcblnbkfaaPk8
import Derived.Test.YtkjhbfcblnbkfaaPk5
import Derived.Deep.RegionHeld3
import Derived.Deep.CutRange
/-! ApiCanon -/
namespace Go.Proofs.Ytkjhbfcblnbkfaa
open Go.RowKit
open Go.Great (wp_anyFrame)

def canonHead : List Rg := [⟨832, 768, 0⟩, ⟨833, 769, 0⟩, ⟨835, 787, 0⟩, ⟨836, 776, 769⟩, ⟨884, 697, 0⟩, ⟨894, 59, 0⟩, ⟨903, 183, 0⟩, ⟨2392, 2325, 2364⟩, ⟨2393, 2326, 2364⟩, ⟨8175, 96, 0⟩, ⟨8192, 8194, 0⟩, ⟨8193, 8195, 0⟩, ⟨8486, 937, 0⟩, ⟨8490, 75, 0⟩, ⟨8491, 197, 0⟩, ⟨12364, 12363, 12441⟩, ⟨12366, 12365, 12441⟩, ⟨12400, 12399, 12441⟩, ⟨12401, 12399, 12442⟩, ⟨12460, 12459, 12441⟩, ⟨12496, 12495, 12441⟩, ⟨12497, 12495, 12442⟩, ⟨64285, 1497, 1460⟩, ⟨64298, 1513, 1473⟩, ⟨64299, 1513, 1474⟩]
def canonRow (m : Mk) : List Rg := List.zipWith (fun d b => ⟨d, b, m.m⟩) (runesS m.d) (runesS m.b)
def tabCanon : List Rg := canonHead ++ tabMade.flatMap canonRow

theorem made_ok : (tabMade.all fun m => decide ((runesS m.d).length = (runesS m.b).length) && (decide (m.b.size ≤ 1000) && (decide (m.d.size ≤ 1000) && decide ((runesS m.b).length ≤ 1000)))) = true := by decide +kernel

theorem gv_tri : ∀ {l : List Rg}, (l.flatMap fun r => [.int .i64 r.f, .int .i64 r.t, .int .i64 r.v]) = gv l
  | [] => rfl
  | r :: l => by simp only [List.flatMap_cons, gv, gv_tri (l := l)]; rfl
/-- a literal's block as ranges that the call owns -/
theorem ownG_made {w : World} {l : List Rg} {e : TypeId} {cs : Array Value} {n k base : Nat} (hn : n = w.heap.size) (hk : k = l.length) (hb : base ≤ w.heap.size) (hc : cs.toList = gv l) (hm : l.length ≤ 1000000) : OwnG e base (w.alloc (.cells cs e)) (.slice (some ⟨n, 0, none⟩) k k) l := by
  subst hn hk
  refine ⟨gv_len l, .inr ⟨w.heap.size, l.length, cs, rfl, hb, heap_alloc_new w _, Nat.le_refl _, by unfold maxLen; omega, ?_, ?_⟩⟩
  · rw [← Array.length_toList, hc, gv_len]
  · rw [hc, List.take_of_length_le (by rw [gv_len]; omega)]
theorem box_grown {w w' : World} {base e size n : Nat} {v : Value} {cs : List Value} (h : w.ownsRow base e size v n cs) {t : TypeId} {xs : List Value} {B : Nat} (hb : Box t xs B w) (ht : t ≠ e) (hg : w.grownBy w' v.ownBlock) : Box t xs B w' := by
  refine (hg.block B hb.lt fun hB => ?_).trans hb
  rcases h.2 with ⟨rfl, _⟩ | ⟨g, cap, cur, rfl, _, hg1, _⟩
  · simp [Value.ownBlock] at hB
  · simp [Value.ownBlock] at hB
    subst hB
    have hb' : w.heap[B]? = some (.cells xs.toArray t) := hb
    rw [hg1] at hb'
    simp at hb'
    exact ht hb'.2.symm

theorem made_at {k : Nat} (h : k < 17) : (decide ((runesS (tabMade.getD k noMk).d).length = (runesS (tabMade.getD k noMk).b).length) && (decide ((tabMade.getD k noMk).b.size ≤ 1000) && (decide ((tabMade.getD k noMk).d.size ≤ 1000) && decide ((runesS (tabMade.getD k noMk).b).length ≤ 1000)))) = true := by
  have e : tabMade.getD k noMk = tabMade[k]'h := by rw [List.getD_eq_getElem?_getD, List.getElem?_eq_getElem h]; rfl
  rw [e]
  exact List.all_eq_true.1 made_ok _ (List.getElem_mem h)
theorem made_next {k : Nat} (h : k < 17) : canonHead ++ (tabMade.take (k + 1)).flatMap canonRow = (canonHead ++ (tabMade.take k).flatMap canonRow) ++ canonRow (tabMade.getD k noMk) := by
  have e : tabMade.getD k noMk = tabMade[k]'h := by rw [List.getD_eq_getElem?_getD, List.getElem?_eq_getElem h]; rfl
  rw [e, ← List.take_append_getElem h, List.flatMap_append, List.append_assoc]
  simp

theorem made_small : ∀ k : Fin 18, (canonHead ++ (tabMade.take k).flatMap canonRow).length ≤ 100000 := by decide +kernel
theorem canonRow_len {m : Mk} {n : Nat} (hb : (runesS m.b).length = n) (hd : (runesS m.d).length = n) : (canonRow m).length = n := by
  unfold canonRow
  rw [List.length_zipWith, hb, hd, Nat.min_self]
theorem canonRow_next {m : Mk} {n j : Nat} (hb : (runesS m.b).length = n) (hd : (runesS m.d).length = n) (hj : j < n) : (canonRow m).take (j + 1) = (canonRow m).take j ++ [⟨(runesS m.d).getD j 0, (runesS m.b).getD j 0, m.m⟩] := by
  rw [List.take_add_one]
  congr 1
  unfold canonRow
  rw [List.getElem?_zipWith]
  simp only [List.getD_eq_getElem?_getD]
  rw [List.getElem?_eq_getElem (by omega), List.getElem?_eq_getElem (by omega)]
  rfl

/-- append(dst, r): also what else stays -/
theorem wpList_appGK {P : Program} (w : World) {ops : Array Oper} {rest : List Oper} {o : Oper} {a : Act} {Q : Exit → Act → World → Prop} (hgd : o.guard = none) (s x : Operand) (t : TypeId)
    (ho : o.op = .call { callee := .builtin .append, args := #[s, x], argTypes := #[t, t] })
    (base e : Nat) (bytes : Nat) (i : TypeInfo) (z : Value) (ht : P.underlying t = some (.slice e)) (hi : P.info? e = some i) (hz : i.zero = some z) (hsize : i.size = 3) (hby : i.bytes = bytes) (hzs : z.cells.size = 3)
    (v : Value) (l : List Rg) (n : Nat) (hn : n = l.length) (hs : a.eval s = v) (hown : OwnG e base w v l) (b : Nat) (r : Rg) (hx : a.eval x = .slice (some ⟨b, 0, none⟩) 1 1)
    (hc : w.cell? ⟨b, 0, none⟩ = some (.int .i64 r.f) ∧ w.cell? ⟨b, 1, none⟩ = some (.int .i64 r.t) ∧ w.cell? ⟨b, 2, none⟩ = some (.int .i64 r.v))
    (h63 : n + 1 ≤ maxLen) (hbytes : (n + 1) * bytes ≤ 140737488355328) (hbase : base ≤ w.heap.size)
    (h : ∀ v' w', OwnG e base w' v' (l ++ [r]) → w.grownBy w' v.ownBlock → Below base w w' → wpList P ops Q rest (a.put o.dst v') w') : wpList P ops Q (o :: rest) a w := by
  subst hn
  refine wpList_append_lies w hgd s x t ho base e i z 3 bytes ht hi hz hsize hby hzs (by decide) v l.length (gv l) hs hown ⟨b, 0, none⟩ 1 1 (gv [r]) hx (by simp [gv]) ?_ (gv_oneCell [r]) (by decide) h63 hbytes hbase w.heap.size rfl ?_
  · intro j u hj
    match j, hj with
    | 0, hj => simp [gv] at hj; subst hj; simpa [Addr.add] using hc.1
    | 1, hj => simp [gv] at hj; subst hj; simpa [Addr.add] using hc.2.1
    | 2, hj => simp [gv] at hj; subst hj; simpa [Addr.add] using hc.2.2
    | j + 3, hj => simp [gv] at hj
  · intro g cap w' hown' hg _ _
    exact h _ w' (by unfold OwnG; rw [gv_app, List.length_append]; exact hown') hg ((Below.refl base w).grown hg hbase (fun k hk => (World.ownsRow.lt hown k hk).1))
end Go.Proofs.Ytkjhbfcblnbkfaa

/-! ApiCodes -/
namespace Go.Proofs.Ytkjhbfcblnbkfaa
open Go.RowKit

theorem OwnG.farB {e base : Nat} {w : World} {v : Value} {l : List Rg} (h : OwnG e base w v l) {B : Nat} (hB : B < base) (j : Nat) (u : Value) : OwnG e base (w.setCell ⟨B, j, none⟩ u) v l := by
  obtain ⟨h1, h2⟩ := h
  refine ⟨h1, ?_⟩
  rcases h2 with h2 | ⟨g, cap, cur, hv, hg, hh, r⟩
  · exact .inl h2
  · refine .inr ⟨g, cap, cur, hv, hg, ?_, r⟩
    show (w.setCell ⟨B, j, none⟩ u).heap[g]? = _
    rw [← hh]
    simp [World.setCell, Array.getElem?_modify]
    omega

theorem apiSets (w : World) : Calls Try.prog 6 #[] w fun e w' => ∃ v, e = .returned v ∧ Own .i64 3 w.heap.size w' v tabSets ∧ Below w.heap.size w w' := by
  go_enter Try.func6, Try.ntmps6
  go_wp2_with (fail)
  go_ret
  exact ⟨_, rfl, lit_own rfl (Nat.le_refl _) rfl rfl (by decide), by (repeat (first | exact Below.refl _ _ | exact below_drewN _ | refine Below.drew ?_ | refine Below.alloc ?_ (by simp) _ | refine Below.setCell ?_ (by simp) _ | refine below_drewN' ?_ _))⟩
theorem apiFinal (s : Int) (w : World) : Calls Try.prog 13 #[.int .i64 s] w fun e w' => e = .returned (.int .i64 (finalS s)) ∧ w = w' := by
  unfold finalS
  by_cases h6 : s = 6
  · subst h6
    go_enter Try.func13, Try.ntmps13
    go_wp2
    go_ret
    exact ⟨rfl, rfl⟩
  rw [if_neg h6]
  have e6 : (s == 6) = false := by simp [h6]
  by_cases h87 : s = 87
  · subst h87
    go_enter Try.func13, Try.ntmps13
    go_wp2
    go_ret
    exact ⟨rfl, rfl⟩
  rw [if_neg h87]
  have e87 : (s == 87) = false := by simp [h87]
  by_cases h102 : s = 102
  · subst h102
    go_enter Try.func13, Try.ntmps13
    go_wp2
    go_ret
    exact ⟨rfl, rfl⟩
  rw [if_neg h102]
  have e102 : (s == 102) = false := by simp [h102]
  by_cases h103 : s = 103
  · subst h103
    go_enter Try.func13, Try.ntmps13
    go_wp2
    go_ret
    exact ⟨rfl, rfl⟩
  rw [if_neg h103]
  have e103 : (s == 103) = false := by simp [h103]
  by_cases h126 : s = 126
  · subst h126
    go_enter Try.func13, Try.ntmps13
    go_wp2
    go_ret
    exact ⟨rfl, rfl⟩
  rw [if_neg h126]
  have e126 : (s == 126) = false := by simp [h126]
  by_cases h138 : s = 138
  · subst h138
    go_enter Try.func13, Try.ntmps13
    go_wp2
    go_ret
    exact ⟨rfl, rfl⟩
  rw [if_neg h138]
  have e138 : (s == 138) = false := by simp [h138]
  by_cases h144 : s = 144
  · subst h144
    go_enter Try.func13, Try.ntmps13
    go_wp2
    go_ret
    exact ⟨rfl, rfl⟩
  rw [if_neg h144]
  have e144 : (s == 144) = false := by simp [h144]
  clear h6 h87 h102 h103 h126 h138 h144
  go_enter Try.func13, Try.ntmps13
  go_wp2
  go_ret
  exact ⟨rfl, rfl⟩

end Go.Proofs.Ytkjhbfcblnbkfaa

/-! ApiCodes2 -/
namespace Go.Proofs.Ytkjhbfcblnbkfaa
open Go.RowKit

theorem code_more {l : List Rg} {set p : Int} {s : ByteArray} {k : Nat} (h : l.length ≤ k) (hs : s.size ≤ 1000) : (l ++ codeR set p (runesS s)).length ≤ k + 1000 := by
  rw [List.length_append]
  have := codeR_len set p (runesS s)
  have := runesS_len s
  omega
end Go.Proofs.Ytkjhbfcblnbkfaa
