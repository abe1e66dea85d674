/- Several texts in one: ApiMade, ApiCanon. -/
import Derived.Test.YtidjjaginindoaaGreatPk3
import Derived.Great.Walk
import Derived.Test.YtidjjaginindoaaGreatPk1
import Derived.Test.YtidjjaginindoaaGreatPk7
import Derived.Deep.RegionHeld3
import Derived.Deep.CutRange
/-! ApiMade -/
namespace Go.Proofs.YtidjjaginindoaaGreat
open Go.RowKit
open Go.Great (wp_anyFrame)

/-- a mark, the bases, what they make with it -/
structure Mk where
  m : Int
  b : ByteArray
  d : ByteArray
def noMk : Mk := ⟨0, ⟨#[]⟩, ⟨#[]⟩⟩
def tabMade : List Mk := [⟨768, ⟨#[65, 69, 73, 79, 85, 78, 87, 89, 97, 101, 105, 111, 117, 110, 119, 121, 208, 149, 208, 152, 208, 181, 208, 184]⟩, ⟨#[195, 128, 195, 136, 195, 140, 195, 146, 195, 153, 199, 184, 225, 186, 128, 225, 187, 178, 195, 160, 195, 168, 195, 172, 195, 178, 195, 185, 199, 185, 225, 186, 129, 225, 187, 179, 208, 128, 208, 141, 209, 144, 209, 157]⟩⟩, ⟨769, ⟨#[65, 69, 73, 79, 85, 89, 67, 76, 78, 82, 83, 90, 97, 101, 105, 111, 117, 121, 99, 108, 110, 114, 115, 122, 206, 145, 206, 149, 206, 151, 206, 153, 206, 159, 206, 165, 206, 169, 206, 177, 206, 181, 206, 183, 206, 185, 206, 191, 207, 133, 207, 137, 208, 147, 208, 154, 208, 179, 208, 186]⟩, ⟨#[195, 129, 195, 137, 195, 141, 195, 147, 195, 154, 195, 157, 196, 134, 196, 185, 197, 131, 197, 148, 197, 154, 197, 185, 195, 161, 195, 169, 195, 173, 195, 179, 195, 186, 195, 189, 196, 135, 196, 186, 197, 132, 197, 149, 197, 155, 197, 186, 206, 134, 206, 136, 206, 137, 206, 138, 206, 140, 206, 142, 206, 143, 206, 172, 206, 173, 206, 174, 206, 175, 207, 140, 207, 141, 207, 142, 208, 131, 208, 140, 209, 147, 209, 156]⟩⟩, ⟨770, ⟨#[65, 69, 73, 79, 85, 67, 71, 72, 74, 83, 87, 89, 97, 101, 105, 111, 117, 99, 103, 104, 106, 115, 119, 121]⟩, ⟨#[195, 130, 195, 138, 195, 142, 195, 148, 195, 155, 196, 136, 196, 156, 196, 164, 196, 180, 197, 156, 197, 180, 197, 182, 195, 162, 195, 170, 195, 174, 195, 180, 195, 187, 196, 137, 196, 157, 196, 165, 196, 181, 197, 157, 197, 181, 197, 183]⟩⟩, ⟨771, ⟨#[65, 78, 79, 73, 85, 97, 110, 111, 105, 117]⟩, ⟨#[195, 131, 195, 145, 195, 149, 196, 168, 197, 168, 195, 163, 195, 177, 195, 181, 196, 169, 197, 169]⟩⟩, ⟨772, ⟨#[65, 69, 73, 79, 85, 97, 101, 105, 111, 117]⟩, ⟨#[196, 128, 196, 146, 196, 170, 197, 140, 197, 170, 196, 129, 196, 147, 196, 171, 197, 141, 197, 171]⟩⟩, ⟨774, ⟨#[65, 69, 71, 73, 79, 85, 97, 101, 103, 105, 111, 117, 208, 152, 208, 163, 208, 184, 209, 131]⟩, ⟨#[196, 130, 196, 148, 196, 158, 196, 172, 197, 142, 197, 172, 196, 131, 196, 149, 196, 159, 196, 173, 197, 143, 197, 173, 208, 153, 208, 142, 208, 185, 209, 158]⟩⟩, ⟨775, ⟨#[67, 69, 71, 73, 90, 99, 101, 103, 122]⟩, ⟨#[196, 138, 196, 150, 196, 160, 196, 176, 197, 187, 196, 139, 196, 151, 196, 161, 197, 188]⟩⟩, ⟨776, ⟨#[65, 69, 73, 79, 85, 89, 97, 101, 105, 111, 117, 121, 206, 153, 206, 165, 206, 185, 207, 133, 208, 149, 208, 134, 208, 181, 209, 150]⟩, ⟨#[195, 132, 195, 139, 195, 143, 195, 150, 195, 156, 197, 184, 195, 164, 195, 171, 195, 175, 195, 182, 195, 188, 195, 191, 206, 170, 206, 171, 207, 138, 207, 139, 208, 129, 208, 135, 209, 145, 209, 151]⟩⟩, ⟨778, ⟨#[65, 85, 97, 117]⟩, ⟨#[195, 133, 197, 174, 195, 165, 197, 175]⟩⟩, ⟨779, ⟨#[79, 85, 111, 117]⟩, ⟨#[197, 144, 197, 176, 197, 145, 197, 177]⟩⟩, ⟨780, ⟨#[67, 68, 69, 78, 82, 83, 84, 90, 99, 100, 101, 110, 114, 115, 116, 122]⟩, ⟨#[196, 140, 196, 142, 196, 154, 197, 135, 197, 152, 197, 160, 197, 164, 197, 189, 196, 141, 196, 143, 196, 155, 197, 136, 197, 153, 197, 161, 197, 165, 197, 190]⟩⟩, ⟨803, ⟨#[65, 69, 73, 79, 85, 97, 101, 105, 111, 117]⟩, ⟨#[225, 186, 160, 225, 186, 184, 225, 187, 138, 225, 187, 140, 225, 187, 164, 225, 186, 161, 225, 186, 185, 225, 187, 139, 225, 187, 141, 225, 187, 165]⟩⟩, ⟨807, ⟨#[67, 71, 75, 76, 78, 82, 83, 84, 99, 103, 107, 108, 110, 114, 115, 116]⟩, ⟨#[195, 135, 196, 162, 196, 182, 196, 187, 197, 133, 197, 150, 197, 158, 197, 162, 195, 167, 196, 163, 196, 183, 196, 188, 197, 134, 197, 151, 197, 159, 197, 163]⟩⟩, ⟨808, ⟨#[65, 69, 73, 85, 97, 101, 105, 117]⟩, ⟨#[196, 132, 196, 152, 196, 174, 197, 178, 196, 133, 196, 153, 196, 175, 197, 179]⟩⟩, ⟨769, ⟨#[195, 130, 195, 138, 195, 148, 195, 162, 195, 170, 195, 180, 207, 138, 207, 139]⟩, ⟨#[225, 186, 164, 225, 186, 190, 225, 187, 144, 225, 186, 165, 225, 186, 191, 225, 187, 145, 206, 144, 206, 176]⟩⟩, ⟨768, ⟨#[195, 130, 195, 138, 195, 148, 195, 162, 195, 170, 195, 180]⟩, ⟨#[225, 186, 166, 225, 187, 128, 225, 187, 146, 225, 186, 167, 225, 187, 129, 225, 187, 147]⟩⟩, ⟨770, ⟨#[225, 186, 160, 225, 186, 184, 225, 187, 140, 225, 186, 161, 225, 186, 185, 225, 187, 141]⟩, ⟨#[225, 186, 172, 225, 187, 134, 225, 187, 152, 225, 186, 173, 225, 187, 135, 225, 187, 153]⟩⟩]

/-- the cells of such rows -/
def mkv : List Mk → List Value
  | [] => []
  | r :: l => .int .i64 r.m :: .string r.b :: .string r.d :: mkv l
theorem mkv_at : ∀ {l : List Mk} {i : Nat}, i < l.length → (mkv l)[i * 3]? = some (.int .i64 (l.getD i noMk).m) ∧ (mkv l)[i * 3 + 1]? = some (.string (l.getD i noMk).b) ∧ (mkv l)[i * 3 + 2]? = some (.string (l.getD i noMk).d)
  | [], _, h => by simp at h
  | r :: l, 0, _ => by simp [mkv]
  | r :: l, i + 1, h => by
    have ih := mkv_at (l := l) (i := i) (by simpa using h)
    rw [mkv, show (i + 1) * 3 = i * 3 + 3 by omega]
    simpa using ih
set_option maxHeartbeats 4000000 in
set_option maxRecDepth 100000 in
theorem apiRows (w : World) : Calls Tryz.prog 84 #[] w fun e w' => e = .returned (.slice (some ⟨w.heap.size, 0, none⟩) 17 17) ∧ w' = w.alloc (.cells (mkv tabMade).toArray 102) := by
  go_enter Tryz.func84, Tryz.ntmps84
  go_wp2_with (fail)
  go_ret
  exact ⟨rfl, rfl⟩

theorem apiExcluded (w : World) : Calls Tryz.prog 58 #[] w fun e w' => ∃ v, e = .returned v ∧ Sl .i64 w' v [836, 2392, 2393, 64285, 64298, 64299] ∧ Below w.heap.size w w' := by
  go_enter Tryz.func58, Tryz.ntmps58
  go_wp2_with (fail)
  go_ret
  exact ⟨_, rfl, lit_sl (by first | simp | rfl) rfl rfl (by simp), by (repeat (first | exact Below.refl _ _ | exact below_drewN _ | refine Below.drew ?_ | refine Below.alloc ?_ (by simp) _ | refine Below.setCell ?_ (by simp) _ | refine below_drewN' ?_ _))⟩
end Go.Proofs.YtidjjaginindoaaGreat

/-! ApiCanon -/
namespace Go.Proofs.YtidjjaginindoaaGreat
open Go.RowKit
open Go.Great (wp_anyFrame)

def canonHead : List Rg := [⟨832, 768, 0⟩, ⟨833, 769, 0⟩, ⟨835, 787, 0⟩, ⟨836, 776, 769⟩, ⟨884, 697, 0⟩, ⟨894, 59, 0⟩, ⟨903, 183, 0⟩, ⟨2392, 2325, 2364⟩, ⟨2393, 2326, 2364⟩, ⟨8175, 96, 0⟩, ⟨8192, 8194, 0⟩, ⟨8193, 8195, 0⟩, ⟨8486, 937, 0⟩, ⟨8490, 75, 0⟩, ⟨8491, 197, 0⟩, ⟨12364, 12363, 12441⟩, ⟨12366, 12365, 12441⟩, ⟨12400, 12399, 12441⟩, ⟨12401, 12399, 12442⟩, ⟨12460, 12459, 12441⟩, ⟨12496, 12495, 12441⟩, ⟨12497, 12495, 12442⟩, ⟨64285, 1497, 1460⟩, ⟨64298, 1513, 1473⟩, ⟨64299, 1513, 1474⟩]
def canonRow (m : Mk) : List Rg := List.zipWith (fun d b => ⟨d, b, m.m⟩) (runesS m.d) (runesS m.b)
def tabCanon : List Rg := canonHead ++ tabMade.flatMap canonRow

theorem made_ok : (tabMade.all fun m => decide ((runesS m.d).length = (runesS m.b).length) && (decide (m.b.size ≤ 1000) && (decide (m.d.size ≤ 1000) && decide ((runesS m.b).length ≤ 1000)))) = true := by decide +kernel

theorem gv_tri : ∀ {l : List Rg}, (l.flatMap fun r => [.int .i64 r.f, .int .i64 r.t, .int .i64 r.v]) = gv l
  | [] => rfl
  | r :: l => by simp only [List.flatMap_cons, gv, gv_tri (l := l)]; rfl
/-- a literal's block as ranges that the call owns -/
theorem ownG_made {w : World} {l : List Rg} {e : TypeId} {cs : Array Value} {n k base : Nat} (hn : n = w.heap.size) (hk : k = l.length) (hb : base ≤ w.heap.size) (hc : cs.toList = gv l) (hm : l.length ≤ 1000000) : OwnG e base (w.alloc (.cells cs e)) (.slice (some ⟨n, 0, none⟩) k k) l := by
  subst hn hk
  refine ⟨gv_len l, .inr ⟨w.heap.size, l.length, cs, rfl, hb, heap_alloc_new w _, Nat.le_refl _, by unfold maxLen; omega, ?_, ?_⟩⟩
  · rw [← Array.length_toList, hc, gv_len]
  · rw [hc, List.take_of_length_le (by rw [gv_len]; omega)]
theorem box_grown {w w' : World} {base e size n : Nat} {v : Value} {cs : List Value} (h : w.ownsRow base e size v n cs) {t : TypeId} {xs : List Value} {B : Nat} (hb : Box t xs B w) (ht : t ≠ e) (hg : w.grownBy w' v.ownBlock) : Box t xs B w' := by
  refine (hg.block B hb.lt fun hB => ?_).trans hb
  rcases h.2 with ⟨rfl, _⟩ | ⟨g, cap, cur, rfl, _, hg1, _⟩
  · simp [Value.ownBlock] at hB
  · simp [Value.ownBlock] at hB
    subst hB
    have hb' : w.heap[B]? = some (.cells xs.toArray t) := hb
    rw [hg1] at hb'
    simp at hb'
    exact ht hb'.2.symm

theorem made_at {k : Nat} (h : k < 17) : (decide ((runesS (tabMade.getD k noMk).d).length = (runesS (tabMade.getD k noMk).b).length) && (decide ((tabMade.getD k noMk).b.size ≤ 1000) && (decide ((tabMade.getD k noMk).d.size ≤ 1000) && decide ((runesS (tabMade.getD k noMk).b).length ≤ 1000)))) = true := by
  have e : tabMade.getD k noMk = tabMade[k]'h := by rw [List.getD_eq_getElem?_getD, List.getElem?_eq_getElem h]; rfl
  rw [e]
  exact List.all_eq_true.1 made_ok _ (List.getElem_mem h)
theorem made_next {k : Nat} (h : k < 17) : canonHead ++ (tabMade.take (k + 1)).flatMap canonRow = (canonHead ++ (tabMade.take k).flatMap canonRow) ++ canonRow (tabMade.getD k noMk) := by
  have e : tabMade.getD k noMk = tabMade[k]'h := by rw [List.getD_eq_getElem?_getD, List.getElem?_eq_getElem h]; rfl
  rw [e, ← List.take_append_getElem h, List.flatMap_append, List.append_assoc]
  simp

theorem made_small : ∀ k : Fin 18, (canonHead ++ (tabMade.take k).flatMap canonRow).length ≤ 100000 := by decide +kernel
theorem canonRow_len {m : Mk} {n : Nat} (hb : (runesS m.b).length = n) (hd : (runesS m.d).length = n) : (canonRow m).length = n := by
  unfold canonRow
  rw [List.length_zipWith, hb, hd, Nat.min_self]
theorem canonRow_next {m : Mk} {n j : Nat} (hb : (runesS m.b).length = n) (hd : (runesS m.d).length = n) (hj : j < n) : (canonRow m).take (j + 1) = (canonRow m).take j ++ [⟨(runesS m.d).getD j 0, (runesS m.b).getD j 0, m.m⟩] := by
  rw [List.take_add_one]
  congr 1
  unfold canonRow
  rw [List.getElem?_zipWith]
  simp only [List.getD_eq_getElem?_getD]
  rw [List.getElem?_eq_getElem (by omega), List.getElem?_eq_getElem (by omega)]
  rfl

/-- append(dst, r): also what else stays -/
theorem wpList_appGK {P : Program} (w : World) {ops : Array Oper} {rest : List Oper} {o : Oper} {a : Act} {Q : Exit → Act → World → Prop} (hgd : o.guard = none) (s x : Operand) (t : TypeId)
    (ho : o.op = .call { callee := .builtin .append, args := #[s, x], argTypes := #[t, t] })
    (base e : Nat) (bytes : Nat) (i : TypeInfo) (z : Value) (ht : P.underlying t = some (.slice e)) (hi : P.info? e = some i) (hz : i.zero = some z) (hsize : i.size = 3) (hby : i.bytes = bytes) (hzs : z.cells.size = 3)
    (v : Value) (l : List Rg) (n : Nat) (hn : n = l.length) (hs : a.eval s = v) (hown : OwnG e base w v l) (b : Nat) (r : Rg) (hx : a.eval x = .slice (some ⟨b, 0, none⟩) 1 1)
    (hc : w.cell? ⟨b, 0, none⟩ = some (.int .i64 r.f) ∧ w.cell? ⟨b, 1, none⟩ = some (.int .i64 r.t) ∧ w.cell? ⟨b, 2, none⟩ = some (.int .i64 r.v))
    (h63 : n + 1 ≤ maxLen) (hbytes : (n + 1) * bytes ≤ 140737488355328) (hbase : base ≤ w.heap.size)
    (h : ∀ v' w', OwnG e base w' v' (l ++ [r]) → w.grownBy w' v.ownBlock → Below base w w' → wpList P ops Q rest (a.put o.dst v') w') : wpList P ops Q (o :: rest) a w := by
  subst hn
  refine wpList_append_lies w hgd s x t ho base e i z 3 bytes ht hi hz hsize hby hzs (by decide) v l.length (gv l) hs hown ⟨b, 0, none⟩ 1 1 (gv [r]) hx (by simp [gv]) ?_ (gv_oneCell [r]) (by decide) h63 hbytes hbase w.heap.size rfl ?_
  · intro j u hj
    match j, hj with
    | 0, hj => simp [gv] at hj; subst hj; simpa [Addr.add] using hc.1
    | 1, hj => simp [gv] at hj; subst hj; simpa [Addr.add] using hc.2.1
    | 2, hj => simp [gv] at hj; subst hj; simpa [Addr.add] using hc.2.2
    | j + 3, hj => simp [gv] at hj
  · intro g cap w' hown' hg _ _
    exact h _ w' (by unfold OwnG; rw [gv_app, List.length_append]; exact hown') hg ((Below.refl base w).grown hg hbase (fun k hk => (World.ownsRow.lt hown k hk).1))
theorem Tryz.infoC3 : (Tryz.prog.info? 66).map (fun i => (i.zero, i.size, i.bytes)) = some (some (.agg #[.int .i64 0, .int .i64 0, .int .i64 0]), 3, 24) := by kernel_rfl

set_option maxRecDepth 10000 in
set_option maxHeartbeats 4000000 in
theorem apiCanon (w : World) : Calls Tryz.prog 55 #[] w fun e w' => ∃ v, e = .returned v ∧ OwnG 66 w.heap.size w' v tabCanon ∧ Below w.heap.size w w' := by
  obtain ⟨i0, hi0, hz0, hz1, hz2⟩ := info_parts Tryz.infoC3
  go_enter Tryz.func55, Tryz.ntmps55
  go_upto_region 1 with (fail)
  go_cut [1] from 7 to 32 (fun lv wx => Hid (OwnG 66 w.heap.size wx lv canonHead) ∧ Hid (Below w.heap.size w wx))
  case first =>
    go_wp2_with (fail)
    go_meet
    case rel => exact ⟨ownG_made (l := canonHead) rfl rfl (Nat.le_refl _) rfl (by decide), by (repeat (first | exact Below.refl _ _ | exact below_drewN _ | refine Below.drew ?_ | refine Below.alloc ?_ (by simp) _ | refine Below.setCell ?_ (by simp) _ | refine below_drewN' ?_ _))⟩
  case rest =>
  obtain ⟨ho0, hb0⟩ := hcut
  obtain ⟨wq, hwq⟩ : ∃ x, x = wc := ⟨_, rfl⟩
  rw [← hwq] at ho0 hb0 ⊢
  clear hwq
  go_wp2_with (go_at_call 84; refine (apiRows _).mono ?_; rintro e w1 ⟨rfl, rfl⟩)
  go_loopw [1, 35] (fun lv iv wr => ∃ k : Nat, k ≤ 17 ∧ iv = .int .i64 k ∧ Hid (OwnG 66 w.heap.size wr lv (canonHead ++ (tabMade.take k).flatMap canonRow)) ∧ Hid (Box 102 (mkv tabMade) wq.heap.size wr) ∧ Hid (Below w.heap.size w wr)) (fun _ iv _ => 17 - (intOf iv).toNat)
  case atStart => exact ⟨0, by omega, rfl, by show OwnG _ _ _ _ (canonHead ++ []); rw [List.append_nil]; exact ho0.out.below (Below.alloc (Below.refl _ _) (Nat.le_refl _) _), Box.made _ _ _, hb0.out.trans (Below.alloc (Below.refl _ _) hb0.out.size _)⟩
  case round =>
    obtain ⟨k, hk, rfl, hown, hbox, hbel⟩ := hrel
    obtain ⟨al, cl, hal⟩ := hown.out.form
    subst hal
    have hsz := hbox.out.lt
    by_cases hlt : k < 17
    · obtain ⟨y0, y1, y2⟩ := mkv_at (l := tabMade) (i := k) hlt
      have hm := made_at hlt
      have hnx := made_next hlt
      have x0 := (hbox.out.cell (k * 3)).trans y0
      have x1 := (hbox.out.cell (k * 3 + 1)).trans y1
      have x2 := (hbox.out.cell (k * 3 + 2)).trans y2
      clear y0 y1 y2
      obtain ⟨L, hL⟩ : ∃ L, L = canonHead ++ (tabMade.take k).flatMap canonRow := ⟨_, rfl⟩
      rw [← hL] at hown hnx ⊢
      obtain ⟨nl, hnl⟩ : ∃ nl, nl = L.length := ⟨_, rfl⟩
      rw [← hnl] at hown ⊢
      have HNL := hid hnl
      clear hnl
      generalize tabMade.getD k noMk = m at x0 x1 x2 hm hnx
      obtain ⟨mm, mb, md⟩ := m
      simp only [Bool.and_eq_true, decide_eq_true_eq] at hm x0 x1 x2
      have HNX := hid hnx
      have HM := hid hm
      have HL := hid hL
      clear hnx hm hL
      go_wp2_with (fail)
      obtain ⟨W, hW⟩ : ∃ W, W = wr.alloc (.cells #[.int .i64 mm, .string mb, .string md] 102) := ⟨_, rfl⟩
      have HX := hid (show Box 102 [.int .i64 mm, .string mb, .string md] wr.heap.size W by rw [hW]; exact Box.made _ _ _)
      have HBW := hid (show Below wr.heap.size wr W by rw [hW]; (repeat (first | exact Below.refl _ _ | exact below_drewN _ | refine Below.drew ?_ | refine Below.alloc ?_ (by simp) _ | refine Below.setCell ?_ (by simp) _ | refine below_drewN' ?_ _)))
      have hzW : W.heap.size = wr.heap.size + 1 := by rw [hW]; simp
      rw [← hW]
      clear hW
      obtain ⟨X, hX⟩ : ∃ X, X = wr.heap.size := ⟨_, rfl⟩
      rw [← hX] at HX hzW ⊢
      have HXE := hid hX
      clear hX
      go_cut [4, 5] from 36 to 44 (fun av dv wx => Hid (Own .i64 3 X wx av (runesS mb)) ∧ Hid (Own .i64 3 X wx dv (runesS md)) ∧ Hid (Below W.heap.size W wx))
      case first =>
        have HMB := hid (show mb.size ≤ 1000000 by have := HM.out.2.1; omega)
        have HMD := hid (show md.size ≤ 1000000 by have := HM.out.2.2.1; omega)
        have HXW := hid (fun w' (h : Below W.heap.size W w') => Box.below HX.out h (by omega))
        have HCA := hid (fun w' (h : Below W.heap.size W w') => (apiRunes mb w' HMB.out).mono fun e wa (hp : ∃ v, e = .returned v ∧ Own .i64 3 w'.heap.size wa v (runesS mb) ∧ Below w'.heap.size w' wa) => (show ∃ v, e = .returned v ∧ Own .i64 3 w'.heap.size wa v (runesS mb) ∧ Below w'.heap.size w' wa ∧ Below W.heap.size W wa from by obtain ⟨v, h1, h2, h3⟩ := hp; exact ⟨v, h1, h2, h3, h.trans (h3.mono h.size)⟩))
        have HCD := hid (fun w' (h : Below W.heap.size W w') => (apiRunes md w' HMD.out).mono fun e wa (hp : ∃ v, e = .returned v ∧ Own .i64 3 w'.heap.size wa v (runesS md) ∧ Below w'.heap.size w' wa) => (show ∃ v, e = .returned v ∧ Own .i64 3 w'.heap.size wa v (runesS md) ∧ Below w'.heap.size w' wa ∧ Below W.heap.size W wa from by obtain ⟨v, h1, h2, h3⟩ := hp; exact ⟨v, h1, h2, h3, h.trans (h3.mono h.size)⟩))
        have HB0 := hid (Below.refl W.heap.size W).drew
        go_region_held3 (fun w' => w'.cell? ⟨X, 1, none⟩ = some (.string mb) ∧ w'.cell? ⟨X, 2, none⟩ = some (.string md))
          (first | exact ⟨(HXW.out _ HBA.out).cell 1, (HXW.out _ HBA.out).cell 2⟩ | exact ⟨(HXW.out _ HBD.out).cell 1, (HXW.out _ HBD.out).cell 2⟩ | exact ⟨(HXW.out _ HB0.out).cell 1, (HXW.out _ HB0.out).cell 2⟩ | go_keep)
          (first
            | (have _u := HBA; clear _u; go_simp; go_at_call 85; refine Calls.mono (HCD.out _ HBA.out) ?_; rintro e wd ⟨vd, rfl, hod, hpd, hbd⟩; have HOD := hid hod; have HPD := hid hpd; have HBD := hid hbd; clear hod hbd hpd)
            | (go_simp; go_at_call 85; refine Calls.mono (HCA.out _ HB0.out) ?_; rintro e wa ⟨va, rfl, hoa, hpa, hba⟩; have HOA := hid hoa; have HPA := hid hpa; have HBA := hid hba; clear hoa hba hpa))
        go_wp2_with (fail)
        go_meet
        case rel => exact ⟨(HOA.out.below HPD.out).mono (show X ≤ W.heap.size by omega), HOD.out.mono (show X ≤ _ from Nat.le_trans (by omega) HBA.out.size), HBD.out⟩
      case rest =>
        obtain ⟨hoa, hod, hbw⟩ := hcut
        have HXX := hid (Box.below HX.out hbw.out (by omega))
        have HBB := hid ((hbox.out.below HBW.out hsz).below hbw.out (by have := HBW.out.size; omega))
        have HBW2 := hid (show Below w.heap.size w wc from (hbel.out.trans (HBW.out.mono (Nat.le_trans (hbel.out.size) (Nat.le_refl _)))).trans (hbw.out.mono (Nat.le_trans hbel.out.size HBW.out.size)))
        have HLL := hid ((hown.out.below HBW.out).below (hbw.out.mono (Nat.le_refl _)))
        obtain ⟨aa, ca, ha⟩ := hoa.out.sl.form
        obtain ⟨ad, cd, hd⟩ := hod.out.sl.form
        subst ha hd
        obtain ⟨n, hn⟩ : ∃ n, n = (runesS mb).length := ⟨_, rfl⟩
        rw [HM.out.1, ← hn] at hod ⊢
        rw [← hn] at hoa
        have HN := hid hn
        clear hn
        go_wp2_with (fail)
        go_loopw [1, 47] (fun lv iv wx => ∃ j : Nat, j ≤ n ∧ iv = .int .i64 j ∧ Hid (OwnG 66 w.heap.size wx lv (L ++ (canonRow ⟨mm, mb, md⟩).take j)) ∧ Hid (Own .i64 3 X wx (.slice aa n ca) (runesS mb)) ∧ Hid (Own .i64 3 X wx (.slice ad n cd) (runesS md)) ∧ Hid (Box 102 [.int .i64 mm, .string mb, .string md] X wx) ∧ Hid (Box 102 (mkv tabMade) wq.heap.size wx) ∧ Hid (Below w.heap.size w wx)) (fun _ iv _ => n - (intOf iv).toNat)
        case atStart => exact ⟨0, by omega, rfl, by show OwnG _ _ _ _ (L ++ []); rw [List.append_nil]; exact HLL.out, hoa.out, hod.out, HXX.out, HBB.out, HBW2.out⟩
        case round =>
          obtain ⟨j, hj, rfl, hown, hoa, hod, hbx, hbox, hbel⟩ := hrel
          obtain ⟨al, cl, hal⟩ := hown.out.form
          subst hal
          by_cases hlt : j < n
          · obtain ⟨a4, c4, he4, q4, -, h4⟩ := hoa.out.sl
            obtain ⟨a5, c5, he5, q5, -, h5⟩ := hod.out.sl
            injection he4 with he4 he4n he4c
            injection he5 with he5 he5n he5c
            subst he4 he5 he4c he5c
            have hjb : j < (runesS mb).length := by omega
            have hjd : j < (runesS md).length := by omega
            rcases h4 with h4 | ⟨b4, o4, rfl, hb4, y4⟩
            · omega
            rcases h5 with h5 | ⟨b5, o5, rfl, hb5, y5⟩
            · omega
            have y4 := y4 j hjb
            have y5 := y5 j hjd
            have HNX2 := hid (canonRow_next (m := ⟨mm, mb, md⟩) he4n.symm he5n.symm hlt)
            have x3 := hbx.out.cell 0
            simp only [List.getElem?_cons_zero] at x3 HNX2
            have hlL := hid (show (L ++ (canonRow ⟨mm, mb, md⟩).take j).length ≤ 200000 by
              have e1 := canonRow_len (m := ⟨mm, mb, md⟩) he4n.symm he5n.symm
              have e2 := made_small ⟨k, by omega⟩
              have e3 := HL.out
              have e4 := HM.out.2.2.2
              rw [← e3] at e2
              rw [List.length_append, List.length_take]
              omega)
            obtain ⟨M, hM⟩ : ∃ M, M = L ++ (canonRow ⟨mm, mb, md⟩).take j := ⟨_, rfl⟩
            rw [← hM] at hown hlL ⊢
            obtain ⟨nm, hnm⟩ : ∃ nm, nm = M.length := ⟨_, rfl⟩
            rw [← hnm] at hown hlL ⊢
            have HM2 := hid hM
            have HNM := hid hnm
            have hlm := hlL.out
            clear hM hnm hlL
            have HNX3 := hid (show L ++ (canonRow ⟨mm, mb, md⟩).take (j + 1) = M ++ [⟨(runesS md).getD j 0, (runesS mb).getD j 0, mm⟩] by rw [HNX2.out, ← List.append_assoc, HM2.out])
            clear HNX2 he4n he5n q4 q5 hb4 hb5 hjb hjd
            generalize (runesS md).getD j 0 = dj at y5 HNX3
            generalize (runesS mb).getD j 0 = bj at y4 HNX3
            go_wp2
            refine region_open 15 rfl (by kernel_rfl) ?_
            have HN1 := hid ((Below.refl wr.heap.size wr).drew)
            generalize wr.drew = w1 at HN1 ⊢
            have hzw := HN1.out.size
            have hn3 : n ≤ 1000 := by have := HM.out.2.2.2; have := HN.out; omega
            have HO1 := hid (hown.out.below HN1.out)
            have HA1 := hid (hoa.out.below HN1.out)
            have HD1 := hid (hod.out.below HN1.out)
            have HX1 := hid (hbx.out.below HN1.out hbx.out.lt)
            have HB1 := hid (hbox.out.below HN1.out hbox.out.lt)
            have HE1 := hid (hbel.out.trans (HN1.out.mono hbel.out.size))
            clear hown hoa hod hbx hbox
            have x3 := HX1.out.cell 0
            simp only [List.getElem?_cons_zero] at x3
            have y4 := (HN1.out.cell (p := ⟨b4, o4 + j, none⟩) (World.block_lt_of_cell? wr _ y4)).trans y4
            have y5 := (HN1.out.cell (p := ⟨b5, o5 + j, none⟩) (World.block_lt_of_cell? wr _ y5)).trans y5
            refine wpAny_take (i := 0) (v := .slice al nm cl) rfl (by kernel_rfl) (by kernel_rfl) (by kernel_rfl) (fun _ _ _ h => h) (.inl ⟨by rfl, fun _ => exec_move rfl rfl⟩) ?_
            refine wpAny_take (i := 1) (v := .slice (some ⟨b5, o5, none⟩) n cd) rfl (by kernel_rfl) (by kernel_rfl) (by kernel_rfl) (fun _ _ _ h => h) (.inl ⟨by rfl, fun _ => exec_move rfl rfl⟩) ?_
            refine wpAny_take (i := 2) (v := .int .i64 j) rfl (by kernel_rfl) (by kernel_rfl) (by kernel_rfl) (fun _ _ _ h => h) (.inl ⟨by rfl, fun _ => exec_move rfl rfl⟩) ?_
            refine wpAny_take (i := 3) (v := .pointer (some ⟨b5, o5 + j, none⟩)) rfl (by kernel_rfl) (by kernel_rfl) (by kernel_rfl) (fun _ _ _ h => h) (.inl ⟨by rfl, fun _ => by go_simp⟩) ?_
            refine wpAny_take (i := 5) (v := .slice (some ⟨b4, o4, none⟩) n ca) rfl (by kernel_rfl) (by kernel_rfl) (by kernel_rfl) (fun _ _ _ h => h) (.inl ⟨by rfl, fun _ => exec_move rfl rfl⟩) ?_
            refine wpAny_take (i := 6) (v := .int .i64 j) rfl (by kernel_rfl) (by kernel_rfl) (by kernel_rfl) (fun _ _ _ h => h) (.inl ⟨by rfl, fun _ => exec_move rfl rfl⟩) ?_
            refine wpAny_take (i := 7) (v := .pointer (some ⟨b4, o4 + j, none⟩)) rfl (by kernel_rfl) (by kernel_rfl) (by kernel_rfl) (fun _ _ _ h => h) (.inl ⟨by rfl, fun _ => by go_simp⟩) ?_
            refine wpAny_take (i := 9) (v := .pointer (some ⟨X, 0, none⟩)) rfl (by kernel_rfl) (by kernel_rfl) (by kernel_rfl) (fun _ _ _ h => h) (.inl ⟨by rfl, fun _ => by go_simp⟩) ?_
            simp only [Act.put, List.getElem_toArray, List.getElem_cons_zero, List.getElem_cons_succ, List.setIfInBounds_toArray, List.set_cons_succ, List.set_cons_zero]
            refine any_reads (i := 4) (j := 8) (k := 10) (vi := .int .i64 dj) (vj := .int .i64 bj) (vk := .int .i64 mm) rfl rfl rfl rfl rfl rfl (by decide) (by decide) (by decide) (fun d h => by cases h; decide) (fun d h => by cases h; decide) (fun d h => by cases h; decide)
              (by kernel_rfl) (by kernel_rfl) (by kernel_rfl) (by kernel_rfl) (by kernel_rfl) (by kernel_rfl) (by kernel_rfl)
              (by rintro b (rfl | rfl | rfl | rfl) <;> exact exec_int rfl rfl y5) (by rintro b (rfl | rfl | rfl | rfl) <;> exact exec_int rfl rfl y4) (by rintro b (rfl | rfl | rfl | rfl) <;> exact exec_int rfl rfl x3) ?_
            refine any_rest 11 rfl (by kernel_rfl) ?_
            simp only [List.drop_succ_cons, List.drop_zero, Act.put, List.getElem_toArray, List.getElem_cons_zero, List.getElem_cons_succ, List.setIfInBounds_toArray, List.set_cons_succ, List.set_cons_zero]
            go_wp2_with (at_builtin; go_loud (refine wpList_appGK _ rfl _ _ 68 rfl w.heap.size 66 24 i0 (.agg #[.int .i64 0, .int .i64 0, .int .i64 0]) Tryz.underlying68 hi0 hz0 hz1 hz2 rfl _ M nm HNM.out rfl (HO1.out.below (by (repeat (first | exact Below.refl _ _ | exact below_drewN _ | refine Below.drew ?_ | refine Below.alloc ?_ (by first | omega | (simp; done) | (simp; omega)) _ | refine Below.setCell ?_ (by first | (simp; done) | (simp; omega)) _ | refine below_drewN' ?_ _)))) w1.heap.size ⟨dj, bj, mm⟩ rfl ⟨by rw [cell_of_row _ w1.heap.size 0 _ 66 (0, 0) (heap_alloc_new _ _)]; rfl, by rw [cell_of_row _ w1.heap.size 1 _ 66 (0, 0) (heap_alloc_new _ _)]; rfl, by rw [cell_of_row _ w1.heap.size 2 _ 66 (0, 0) (heap_alloc_new _ _)]; rfl⟩ (by unfold maxLen; omega) (by omega) (by have := HE1.out.size; simp; omega) ?_); intro v6 w6 ho6 hg6 hb6; have HG6 := hid hg6; clear hg6)
            go_roundw
            case rel =>
              have hb7 := Below.alloc (Below.refl w1.heap.size w1) (Nat.le_refl _) (.cells #[.int .i64 dj, .int .i64 bj, .int .i64 mm] 66)
              have hr7 := HO1.out.below hb7
              refine ⟨j + 1, by omega, by go_num, ?_, own_row hr7 (HA1.out.below hb7) (by decide) HG6.out, own_row hr7 (HD1.out.below hb7) (by decide) HG6.out, box_grown hr7 (HX1.out.below hb7 HX1.out.lt) (by decide) HG6.out, box_grown hr7 (HB1.out.below hb7 HB1.out.lt) (by decide) HG6.out, HE1.out.trans (Below.trans (hb7.mono HE1.out.size) hb6)⟩
              show OwnG _ _ _ _ _
              rw [HNX3.out]
              exact ho6
            case measure => simp [intOf]; omega
          · obtain rfl : j = n := by omega
            go_wp2
            go_roundw
            case rel =>
              refine ⟨k + 1, by omega, by go_num, ?_, hbox.out, hbel.out⟩
              have e1 : (canonRow ⟨mm, mb, md⟩).take j = canonRow ⟨mm, mb, md⟩ := List.take_of_length_le (by rw [canonRow_len (m := ⟨mm, mb, md⟩) HN.out.symm (by show (runesS md).length = _; rw [HM.out.1, HN.out])]; exact Nat.le_refl _)
              show OwnG _ _ _ _ _
              rw [HNX.out]
              exact (congrArg (fun M => OwnG 66 w.heap.size wr (.slice al (L ++ (canonRow ⟨mm, mb, md⟩).take j).length cl) (L ++ M)) e1).mp hown.out
            case measure => simp [intOf]; omega
    · obtain rfl : k = 17 := by omega
      go_wp2
      go_ret
      exact ⟨_, rfl, hown.out, hbel.out⟩
end Go.Proofs.YtidjjaginindoaaGreat
