/- Several texts in one: Ix, KeepInts, Runes, Maps6, RngMath, RngPack, OwnG, TwinInts, HangOk, RepNum, SlAt. -/
import Derived.Test.YtidjjaginindoaaGreatPk1
import Derived.Lib.OthersKept
import Derived.Deep.AppendLies
import Derived.Great.Walk
/-! Ix -/
namespace Go.Proofs.YtidjjaginindoaaGreat
open Go.RowKit

theorem ixr' (x m : Int) (hm : 0 < m) : 0 ≤ (IntKind.u64.wrap x).tmod m ∧ (IntKind.u64.wrap x).tmod m < m := by
  have h0 : 0 ≤ IntKind.u64.wrap x := by
    simp only [IntKind.wrap, IntKind.bits, IntKind.signed]
    simp
    omega
  rw [Int.tmod_eq_emod_of_nonneg h0]
  exact ⟨Int.emod_nonneg _ (by omega), Int.emod_lt_of_pos _ hm⟩
theorem ixr (x m : Int) (hm : 0 < m) (hl : m ≤ 1000000) : 0 ≤ wrap64 ((IntKind.u64.wrap x).tmod m) ∧ wrap64 ((IntKind.u64.wrap x).tmod m) < m := by
  have h := ixr' x m hm
  have e : wrap64 ((IntKind.u64.wrap x).tmod m) = (IntKind.u64.wrap x).tmod m := by unfold wrap64; omega
  rw [e]
  exact h
theorem Sl.one {k : IntKind} {w : World} {v : Value} {x : Int} (h : Sl k w v [x]) : ∃ b o c, v = .slice (some ⟨b, o, none⟩) 1 c ∧ w.cell? ⟨b, o, none⟩ = some (.int k x) := by
  obtain ⟨a, c, rfl, hl, -, h⟩ := h
  rcases h with rfl | ⟨b, o, rfl, -, h⟩
  · simp at hl
  · exact ⟨b, o, c, rfl, by simpa using h 0 (by simp)⟩
theorem Sl.two {k : IntKind} {w : World} {v : Value} {x y : Int} (h : Sl k w v [x, y]) : ∃ b o c, v = .slice (some ⟨b, o, none⟩) 2 c ∧ w.cell? ⟨b, o, none⟩ = some (.int k x) ∧ w.cell? ⟨b, o + 1, none⟩ = some (.int k y) := by
  obtain ⟨a, c, rfl, hl, -, h⟩ := h
  rcases h with rfl | ⟨b, o, rfl, -, h⟩
  · simp at hl
  · exact ⟨b, o, c, rfl, by simpa using h 0 (by simp), by simpa using h 1 (by simp)⟩
end Go.Proofs.YtidjjaginindoaaGreat

/-! KeepInts -/
namespace Go.Proofs.YtidjjaginindoaaGreat
open Go.RowKit

theorem keepInts (v1 v2 : Value) (xs ys : List Int) (w : World) (h1 : Sl .i64 w v1 xs) (h2 : Sl .i64 w v2 ys) :
    Calls Tryz.prog 13 #[v1, v2] w fun e w' => e = .returned (.bool (eqL xs ys)) ∧ ∃ n, w' = w.drewN n := by
  have m1 := h1.len
  have m2 := h2.len
  obtain ⟨a1, cap1, rfl, q1, -, h1⟩ := h1
  obtain ⟨a2, cap2, rfl, q2, -, h2⟩ := h2
  by_cases hne : xs.length = ys.length
  · rcases Nat.eq_zero_or_pos xs.length with h0 | h0
    · have hx : xs = [] := List.eq_nil_of_length_eq_zero h0
      have hy : ys = [] := List.eq_nil_of_length_eq_zero (by omega)
      subst hx hy
      clear h1 h2 hne h0
      simp only [List.length_nil]
      go_enter Tryz.func13, Tryz.ntmps13
      go_wp2
      go_loopw [5] (fun i wr => i = .int .i64 0 ∧ wr = w) (fun i _ => 0)
      case atStart => exact ⟨rfl, rfl⟩
      case round =>
        obtain ⟨rfl, rfl⟩ := hrel
        go_wp2
        go_ret
        exact ⟨rfl, 0, rfl⟩
    · rcases h1 with hc | ⟨b1, o1, rfl, hb1, c1⟩
      · omega
      rcases h2 with hc | ⟨b2, o2, rfl, hb2, c2⟩
      · omega
      rw [← hne] at c2 ⊢
      have HN := hid hne
      obtain ⟨len, hlen⟩ : ∃ len, len = xs.length := ⟨_, rfl⟩
      clear q1 q2
      rw [← hlen] at c1 c2 m1 h0 ⊢
      have HL := hid hlen
      clear hlen m2 hne
      have C1 := hid c1
      have C2 := hid c2
      clear c1 c2 hb1 hb2
      go_enter Tryz.func13, Tryz.ntmps13
      go_wp2
      go_loopw [5] (fun i wr => ∃ k n : Nat, k ≤ len ∧ i = .int .i64 k ∧ wr = w.drewN n ∧ Hid (∀ i, i < k → xs.getD i 0 = ys.getD i 0)) (fun i _ => len - (intOf i).toNat)
      case atStart => exact ⟨0, 0, by omega, rfl, rfl, fun i hi => absurd hi (by omega)⟩
      case round =>
        obtain ⟨k, n, hk, rfl, rfl, hall⟩ := hrel
        by_cases hlt : k < len
        · have d1 := C1.out k hlt
          have d2 := C2.out k hlt
          go_wp2
          go_quiet (fail)
          go_wp2
          · have ht : (xs[k]?.getD 0 != ys[k]?.getD 0) = true := by assumption
            go_ret
            refine ⟨ret_bool ?_, drewN_ex _ _ _⟩
            have : xs ≠ ys := by rintro rfl; simp at ht
            simp [eqL, this]
          · have ht : (xs[k]?.getD 0 != ys[k]?.getD 0) = false := by assumption
            go_roundw
            case rel =>
              refine ⟨k + 1, _, by omega, by go_num, rfl, fun i hi => ?_⟩
              rcases Nat.lt_or_ge i k with h | h
              · exact hall.out i h
              · obtain rfl : i = k := by omega
                simpa [List.getD_eq_getElem?_getD] using ht
            case measure => simp [intOf]; omega
        · go_wp2
          go_ret
          refine ⟨ret_bool ?_, n, rfl⟩
          exact (eqL_iff.2 (ext_getD HN.out fun i hi => hall.out i (by rw [← HL.out] at hi; omega))).symm
  · have hf : eqL xs ys = false := by
      have : xs ≠ ys := by rintro rfl; exact hne rfl
      simp [eqL, this]
    rw [hf]
    clear hf h1 h2 q1 q2
    have ht : ((xs.length : Int) != (ys.length : Int)) = true := by simp; omega
    clear hne
    generalize xs.length = l1 at ht m1 ⊢
    generalize ys.length = l2 at ht m2 ⊢
    go_enter Tryz.func13, Tryz.ntmps13
    go_wp2
    go_ret
    exact ⟨rfl, 0, rfl⟩

theorem Tryz.infoI64 : (Tryz.prog.info? 3).map (fun i => (i.zero, i.size, i.bytes)) = some (some (.int .i64 0), 1, 8) := by kernel_rfl

end Go.Proofs.YtidjjaginindoaaGreat

/-! Runes -/
namespace Go.Proofs.YtidjjaginindoaaGreat
open Go.RowKit

/-- what ranging over a string gives from a place on, in so many steps -/
def runesAt (s : ByteArray) : Nat → Nat → List Int
  | 0, _ => []
  | f + 1, p => if p < s.size then (Utf8.decode s p).1 :: runesAt s f (p + (Utf8.decode s p).2) else []
def runesS (s : ByteArray) : List Int := runesAt s s.size 0

theorem width_pos (s : ByteArray) (p : Nat) (h : p < s.size) : 1 ≤ (Utf8.decode s p).2 := by
  by_cases ha : (s[p]'h).toNat < 128
  · rw [decode_ascii s p h ha]
    exact Nat.le_refl _
  · exact (decode_high s p h (by omega)).2

theorem runesAt_end {s : ByteArray} {f p : Nat} (h : ¬ p < s.size) : runesAt s f p = [] := by
  cases f with
  | zero => rfl
  | succ f => simp [runesAt, h]

theorem runesAt_next {s : ByteArray} {f p : Nat} (h : p < s.size) (hf : s.size ≤ p + f) : runesAt s f p = ((Utf8.decode s p).1 : Int) :: runesAt s (f - 1) (p + (Utf8.decode s p).2) := by
  cases f with
  | zero => omega
  | succ f => simp [runesAt, h]

/-- an owned slice when an iterator moves on -/
theorem Own.iterAt {k : IntKind} {e base : Nat} {w : World} {v : Value} {xs : List Int} (h : Own k e base w v xs) {K : Nat} {s : ByteArray} {p q : Nat} (hk : w.heap[K]? = some (.stringIter s p)) : Own k e base (w.iterAt K s q) v xs := by
  obtain ⟨h1, h2⟩ := h
  refine ⟨h1, ?_⟩
  rcases h2 with ⟨rfl, hn⟩ | ⟨g, cap, cur, rfl, hb, hg, hr⟩
  · exact .inl ⟨rfl, hn⟩
  · have hne : g ≠ K := fun he => by rw [he, hk] at hg; simp at hg
    exact .inr ⟨g, cap, cur, rfl, hb, (Lib.iterAt_other _ _ _ _ _ hne).trans hg, hr⟩

theorem Own.notIter {k : IntKind} {e base : Nat} {w : World} {v : Value} {xs : List Int} (h : Own k e base w v xs) {K : Nat} {s : ByteArray} {p : Nat} (hk : w.heap[K]? = some (.stringIter s p)) : some K ≠ v.ownBlock := by
  obtain ⟨h1, h2⟩ := h
  rcases h2 with ⟨rfl, hn⟩ | ⟨g, cap, cur, rfl, hb, hg, hr⟩
  · simp [Value.ownBlock]
  · intro he
    simp only [Value.ownBlock, Option.some.injEq] at he
    rw [← he, hk] at hg
    simp at hg

set_option maxHeartbeats 2000000 in
theorem apiRunes (s : ByteArray) (w : World) (hs : s.size ≤ 1000000) :
    Calls Tryz.prog 85 #[.string s] w fun e w' => ∃ v, e = .returned v ∧ Own .i64 3 w.heap.size w' v (runesS s) ∧ Below w.heap.size w w' := by
  go_enter Tryz.func85, Tryz.ntmps85
  go_wp2
  go_loopw [3] (fun lv wr => ∃ (p f : Nat) (xs : List Int), Hid (wr.heap[w.heap.size]? = some (.stringIter s p)) ∧ Hid (Own .i64 3 w.heap.size wr lv xs) ∧ Hid (runesS s = xs ++ runesAt s f p) ∧ s.size ≤ p + f ∧ xs.length ≤ p ∧ Hid (Below w.heap.size w wr)) (fun _ wr => s.size - wr.iterPos w.heap.size)
  case atStart => exact ⟨0, s.size, [], World.iter_heap w s 0, Own.nil _ _ _ _, rfl, by omega, by simp, by unfold World.iter; (repeat (first | exact Below.refl _ _ | exact below_drewN _ | refine Below.drew ?_ | refine Below.alloc ?_ (by simp) _ | refine Below.setCell ?_ (by simp) _ | refine below_drewN' ?_ _))⟩
  case round =>
    obtain ⟨p, f, xs, hit, hown, hrun, hf, hlen, hbel⟩ := hrel
    obtain ⟨al, cl, hal⟩ := hown.out.sl.form
    subst hal
    have hsz : w.heap.size < wr.heap.size := (Array.getElem?_eq_some_iff.1 hit.out).1
    by_cases hp : p < s.size
    · have ip : Hid (wr.iterPos w.heap.size = p) := hid (by unfold World.iterPos; rw [hit.out])
      have hnx := fun ty => Lib.run_next_any_at (P := Tryz.prog) wr w.heap.size s p ty hit.out hp
      have hw := width_pos s p hp
      have hle := decode_le s p
      have hrun2 := hid (hrun.out.trans (by rw [runesAt_next hp hf]))
      have hit2 := hid (Lib.iterAt_heap wr w.heap.size s p (p + (Utf8.decode s p).2) hit.out)
      have hown2 := hid (hown.out.iterAt (q := p + (Utf8.decode s p).2) hit.out)
      have hbel2 := hid (Lib.below_iterAt hbel.out (Nat.le_refl _) s (p + (Utf8.decode s p).2))
      have hsz2 : w.heap.size < (wr.iterAt w.heap.size s (p + (Utf8.decode s p).2)).heap.size := by rw [Lib.iterAt_size]; exact hsz
      generalize wr.iterAt w.heap.size s (p + (Utf8.decode s p).2) = w2 at hnx hit2 hown2 hbel2 hsz2
      have hrun3 := hrun2.out
      clear hrun2 hrun
      generalize Utf8.decode s p = q at hnx hit2 hbel2 hw hle hrun3
      obtain ⟨c, d⟩ := q
      simp only at hnx hit2 hbel2 hw hle hrun3
      have hrun2 := hid hrun3
      clear hrun3
      clear hit hown
      go_wp2_with (at_builtin; go_loud (refine wpList_app _ rfl _ _ 22 rfl .i64 w.heap.size 3 8 Tryz.underlying22 Tryz.infoI64 _ xs [(c : Int)] rfl (hown2.out.below (by (repeat (first | exact Below.refl _ _ | exact below_drewN _ | refine Below.drew ?_ | refine Below.alloc ?_ (by simp) _ | refine Below.setCell ?_ (by simp) _ | refine below_drewN' ?_ _)))) _ rfl (one_sl (by first | simp | rfl)) (by unfold maxLen; first | omega | (simp; omega) | simp) (by first | omega | (simp; omega) | simp) (by first | omega | (simp; omega) | simp) ?_); intro v5 w5 ho5 hg5 hb5 hn5; clear hn5)
      have hit3 : (w2.alloc (.cells #[.int .i64 (c : Int)] 3)).heap[w.heap.size]? = some (.stringIter s (p + d)) := (Go.Lib.alloc_old w2 _ _ hsz2).trans hit2.out
      have hit5 : w5.heap[w.heap.size]? = some (.stringIter s (p + d)) := (hg5.block _ (by simp; omega) ((hown2.out.alloc _).notIter hit3)).trans hit3
      have ip5 : w5.iterPos w.heap.size = p + d := by unfold World.iterPos; rw [hit5]
      clear hg5
      go_roundw
      case rel =>
        refine ⟨p + d, f - 1, xs ++ [(c : Int)], hit5, ho5, ?_, by omega, by simp; omega, hbel2.out.trans (Below.trans ?_ hb5)⟩
        · show _ = _
          rw [hrun2.out, List.append_assoc]
          rfl
        · (repeat (first | exact Below.refl _ _ | exact below_drewN _ | refine Below.drew ?_ | refine Below.alloc ?_ (by first | omega | (simp; done) | (simp; omega)) _ | refine Below.setCell ?_ (by first | (simp; done) | (simp; omega)) _ | refine below_drewN' ?_ _))
      case measure =>
        rw [ip5, ip.out]
        omega
    · have hnx := fun ty => Lib.run_next_end_at (P := Tryz.prog) wr w.heap.size s p ty hit.out hp
      have hrun2 := hid (hrun.out.trans (by rw [runesAt_end hp, List.append_nil]))
      go_wp2
      go_ret
      exact ⟨_, rfl, by rw [hrun2.out]; exact hown.out, hbel.out⟩
end Go.Proofs.YtidjjaginindoaaGreat

/-! Maps6 -/
namespace Go.Proofs.YtidjjaginindoaaGreat
open Go.RowKit

/-- a scalar, and what it becomes -/
structure Mp where
  f : Int
  t : List Int
def noMp : Mp := ⟨0, []⟩
/-- the cells of such a list, us the slices -/
def mv : List Mp → List Value → List Value
  | m :: l, u :: us => .int .i64 m.f :: u :: mv l us
  | _, _ => []
/-- what the slices hold -/
def Tos (base : Nat) (w : World) : List Mp → List Value → Prop
  | [], [] => True
  | m :: l, u :: us => Own .i64 3 base w u m.t ∧ Tos base w l us
  | _, _ => False
theorem Tos.len {base : Nat} {w : World} : ∀ {l : List Mp} {us : List Value}, Tos base w l us → us.length = l.length
  | [], [], _ => rfl
  | _ :: _, _ :: _, h => by rw [List.length_cons, List.length_cons, Tos.len h.2]
  | [], _ :: _, h => h.elim
  | _ :: _, [], h => h.elim
theorem mv_len : ∀ {l : List Mp} {us : List Value}, us.length = l.length → (mv l us).length = l.length * 2
  | [], [], _ => rfl
  | _ :: l, _ :: us, h => by rw [mv, List.length_cons, List.length_cons, mv_len (by simpa using h), List.length_cons]; omega
  | [], _ :: _, h => by simp at h
  | _ :: _, [], h => by simp at h
theorem Tos.map {base base' : Nat} {w w' : World} (hf : ∀ u xs, Own .i64 3 base w u xs → Own .i64 3 base' w' u xs) : ∀ {l : List Mp} {us : List Value}, Tos base w l us → Tos base' w' l us
  | [], [], _ => trivial
  | _ :: _, _ :: _, h => ⟨hf _ _ h.1, Tos.map hf h.2⟩
  | [], _ :: _, h => h.elim
  | _ :: _, [], h => h.elim
theorem mv_app : ∀ {l : List Mp} {us : List Value} (m : Mp) (u : Value), us.length = l.length → mv (l ++ [m]) (us ++ [u]) = mv l us ++ [.int .i64 m.f, u]
  | [], [], _, _, _ => rfl
  | _ :: l, _ :: us, m, u, h => by rw [List.cons_append, List.cons_append, mv, mv, mv_app m u (by simpa using h)]; rfl
  | [], _ :: _, _, _, h => by simp at h
  | _ :: _, [], _, _, h => by simp at h
theorem Tos.app {base : Nat} {w : World} : ∀ {l : List Mp} {us : List Value} {m : Mp} {u : Value}, Tos base w l us → Own .i64 3 base w u m.t → Tos base w (l ++ [m]) (us ++ [u])
  | [], [], _, _, _, hu => ⟨hu, trivial⟩
  | _ :: _, _ :: _, _, _, h, hu => ⟨h.1, Tos.app h.2 hu⟩
  | [], _ :: _, _, _, h, _ => h.elim
  | _ :: _, [], _, _, h, _ => h.elim
theorem Tos.at {base : Nat} {w : World} : ∀ {l : List Mp} {us : List Value} {i : Nat}, Tos base w l us → i < l.length → ∃ u, (mv l us)[i * 2]? = some (.int .i64 (l.getD i noMp).f) ∧ (mv l us)[i * 2 + 1]? = some u ∧ Own .i64 3 base w u (l.getD i noMp).t
  | [], [], _, _, h => by simp at h
  | _ :: _, u :: _, 0, h, _ => ⟨u, by simp [mv], by simp [mv], h.1⟩
  | _ :: l, _ :: us, i + 1, h, hi => by
    obtain ⟨u, h1, h2, h3⟩ := Tos.at (i := i) h.2 (by simpa using hi)
    refine ⟨u, ?_, ?_, h3⟩
    · rw [mv, show (i + 1) * 2 = i * 2 + 2 by omega]; simpa using h1
    · rw [mv, show (i + 1) * 2 + 1 = i * 2 + 1 + 2 by omega]; simpa using h2
  | [], _ :: _, _, h, _ => h.elim
  | _ :: _, [], _, h, _ => h.elim
theorem Own.one {k : IntKind} {e base : Nat} {w : World} {v : Value} {xs : List Int} (h : Own k e base w v xs) : v.oneCell' = true := by
  obtain ⟨a, c, rfl⟩ := h.sl.form
  rfl
theorem Tos.one {base : Nat} {w : World} : ∀ {l : List Mp} {us : List Value}, Tos base w l us → ∀ u ∈ mv l us, u.oneCell' = true
  | [], [], _, _, h => by cases h
  | _ :: _, _ :: _, h, u, hu => by
    rw [mv] at hu
    simp only [List.mem_cons] at hu
    rcases hu with rfl | rfl | hu
    · rfl
    · exact h.1.one
    · exact Tos.one h.2 u hu
  | [], _ :: _, h, _, _ => h.elim
  | _ :: _, [], h, _, _ => h.elim

/-- The value v is a slice that holds the list l. -/
def Sm (w : World) (v : Value) (l : List Mp) : Prop :=
  ∃ a cap, v = .slice a l.length cap ∧ l.length ≤ cap ∧ cap ≤ maxLen ∧
    (cap = 0 ∨ ∃ b off, a = some ⟨b, off, none⟩ ∧ (0 < l.length → b < w.heap.size) ∧ ∀ i, i < l.length →
      w.cell? ⟨b, off + i * 2, none⟩ = some (.int .i64 (l.getD i noMp).f) ∧ ∃ u, w.cell? ⟨b, off + i * 2 + 1, none⟩ = some u ∧ Sl .i64 w u (l.getD i noMp).t)
theorem Sm.below {w w' : World} {v : Value} {l : List Mp} (h : Sm w v l) (hb : Below w.heap.size w w') : Sm w' v l := by
  obtain ⟨a, cap, hv, hl, hm, h⟩ := h
  refine ⟨a, cap, hv, hl, hm, ?_⟩
  rcases h with h | ⟨b, off, ha, hbb, hc⟩
  · exact .inl h
  · refine .inr ⟨b, off, ha, fun h0 => Nat.lt_of_lt_of_le (hbb h0) hb.size, fun i hi => ?_⟩
    obtain ⟨h1, u, h2, h3⟩ := hc i hi
    have hlt := hbb (by omega)
    exact ⟨(hb.cell (p := ⟨b, off + i * 2, none⟩) hlt).trans h1, u, (hb.cell (p := ⟨b, off + i * 2 + 1, none⟩) hlt).trans h2, h3.below hb⟩
theorem Sm.drewN {w : World} {v : Value} {l : List Mp} (h : Sm w v l) (n : Nat) : Sm (w.drewN n) v l := h
theorem Sm.form {w : World} {v : Value} {l : List Mp} (h : Sm w v l) : ∃ a c, v = .slice a l.length c := by
  obtain ⟨a, c, rfl, -, -, -⟩ := h
  exact ⟨a, c, rfl⟩
theorem Sm.len {w : World} {v : Value} {l : List Mp} (h : Sm w v l) : l.length ≤ 9223372036854775807 := by
  obtain ⟨a, cap, _, hl, hm, _⟩ := h
  unfold maxLen at hm
  omega

/-- Such a slice of the call's own. -/
def OwnM (e base : Nat) (w : World) (v : Value) (l : List Mp) : Prop := ∃ us, Tos base w l us ∧ w.ownsRow base e 2 v l.length (mv l us)
theorem OwnM.below {e base : Nat} {w w' : World} {v : Value} {l : List Mp} (h : OwnM e base w v l) (hb : Below w.heap.size w w') : OwnM e base w' v l := by
  obtain ⟨us, ht, h1, h2⟩ := h
  refine ⟨us, ht.map fun u xs hu => hu.below hb, h1, ?_⟩
  rcases h2 with h2 | ⟨g, cap, cur, hv, hg, hh, r⟩
  · exact .inl h2
  · exact .inr ⟨g, cap, cur, hv, hg, by rw [hb.block g (Array.getElem?_eq_some_iff.1 hh).1]; exact hh, r⟩
theorem OwnM.mono {e base base' : Nat} {w : World} {v : Value} {l : List Mp} (h : OwnM e base w v l) (hb : base' ≤ base) : OwnM e base' w v l := by
  obtain ⟨us, ht, h1, h2⟩ := h
  refine ⟨us, ht.map fun u xs hu => hu.mono hb, h1, ?_⟩
  rcases h2 with h2 | ⟨g, cap, cur, hv, hg, r⟩
  · exact .inl h2
  · exact .inr ⟨g, cap, cur, hv, by omega, r⟩
theorem OwnM.sm {e base : Nat} {w : World} {v : Value} {l : List Mp} (h : OwnM e base w v l) : Sm w v l := by
  obtain ⟨us, hts, h1, h2⟩ := h
  have hlen := mv_len hts.len
  rcases h2 with ⟨rfl, hn⟩ | ⟨g, cap, cur, rfl, hb, hg, hnc, hcm, hcs, ht⟩
  · exact ⟨none, 0, by rw [hn], by omega, by unfold maxLen; omega, .inl rfl⟩
  · have key : ∀ j, j < l.length * 2 → w.cell? ⟨g, 0 + j, none⟩ = (mv l us)[j]? := fun j hj => by
      rw [cell_of_row w g (0 + j) cur e (0, 0) hg, ← ht, List.getElem?_take, if_pos hj]
      simp
    refine ⟨some ⟨g, 0, none⟩, cap, rfl, hnc, hcm, .inr ⟨g, 0, rfl, fun _ => (Array.getElem?_eq_some_iff.1 hg).1, fun i hi => ?_⟩⟩
    obtain ⟨u, a1, a2, a3⟩ := hts.at hi
    exact ⟨(key (i * 2) (by omega)).trans a1, u, (key (i * 2 + 1) (by omega)).trans a2, a3.sl⟩
theorem OwnM.form {e base : Nat} {w : World} {v : Value} {l : List Mp} (h : OwnM e base w v l) : ∃ a c, v = .slice a l.length c := h.sm.form

/-- what else is owned stays when a row of another type grows -/
theorem own_row {w w' : World} {base e size n : Nat} {v : Value} {cs : List Value} (h : w.ownsRow base e size v n cs) {k : IntKind} {e2 base2 : Nat} {u : Value} {xs : List Int} (ho : Own k e2 base2 w u xs) (ht : e2 ≠ e) (hg : w.grownBy w' v.ownBlock) : Own k e2 base2 w' u xs := by
  refine World.ownsRow.kept ho hg ?_
  cases hb : u.ownBlock with
  | none => exact .inl rfl
  | some c =>
    refine .inr fun hrow => ?_
    rcases h.2 with ⟨rfl, _⟩ | ⟨g, cap, cur, rfl, _, hg1, _⟩
    · simp [Value.ownBlock] at hrow
    · rcases ho.2 with ⟨rfl, _⟩ | ⟨g2, cap2, cur2, rfl, _, hg2, _⟩
      · simp [Value.ownBlock] at hb
      · simp [Value.ownBlock] at hrow hb
        subst hrow hb
        rw [hg1] at hg2
        simp at hg2
        exact ht hg2.2.symm

/-- append(dst, m): also what else stays -/
theorem wpList_appM {P : Program} (w : World) {ops : Array Oper} {rest : List Oper} {o : Oper} {a : Act} {Q : Exit → Act → World → Prop} (hgd : o.guard = none) (s x : Operand) (t : TypeId)
    (ho : o.op = .call { callee := .builtin .append, args := #[s, x], argTypes := #[t, t] })
    (base e : Nat) (he : 3 ≠ e) (bytes : Nat) (i : TypeInfo) (z : Value) (ht : P.underlying t = some (.slice e)) (hi : P.info? e = some i) (hz : i.zero = some z) (hsize : i.size = 2) (hby : i.bytes = bytes) (hzs : z.cells.size = 2)
    (v : Value) (l : List Mp) (n : Nat) (hn : n = l.length) (hs : a.eval s = v) (hown : OwnM e base w v l) (b : Nat) (m : Mp) (u : Value) (hx : a.eval x = .slice (some ⟨b, 0, none⟩) 1 1)
    (hc : w.cell? ⟨b, 0, none⟩ = some (.int .i64 m.f) ∧ w.cell? ⟨b, 1, none⟩ = some u) (hu : Own .i64 3 base w u m.t)
    (h63 : n + 1 ≤ maxLen) (hbytes : (n + 1) * bytes ≤ 140737488355328) (hbase : base ≤ w.heap.size)
    (h : ∀ v' w', OwnM e base w' v' (l ++ [m]) → w.grownBy w' v.ownBlock → Below base w w' → wpList P ops Q rest (a.put o.dst v') w') : wpList P ops Q (o :: rest) a w := by
  subst hn
  obtain ⟨us, hts, hrow⟩ := hown
  refine wpList_append_lies w hgd s x t ho base e i z 2 bytes ht hi hz hsize hby hzs (by decide) v l.length (mv l us) hs hrow ⟨b, 0, none⟩ 1 1 [.int .i64 m.f, u] hx (by simp) ?_ ?_ (by decide) h63 hbytes hbase w.heap.size rfl ?_
  · intro j y hj
    match j, hj with
    | 0, hj => simp at hj; subst hj; simpa [Addr.add] using hc.1
    | 1, hj => simp at hj; subst hj; simpa [Addr.add] using hc.2
    | j + 2, hj => simp at hj
  · intro y hy
    simp only [List.mem_cons, List.not_mem_nil, or_false] at hy
    rcases hy with rfl | rfl
    · rfl
    · exact hu.one
  · intro g cap w' hown' hg _ _
    refine h _ w' ⟨us ++ [u], Tos.app (hts.map fun u xs hu => own_row hrow hu he hg) (own_row hrow hu he hg), ?_⟩ hg ((Below.refl base w).grown hg hbase (fun k hk => (World.ownsRow.lt hrow k hk).1))
    rw [mv_app m u hts.len, List.length_append]
    exact hown'

/-! ### a literal of such a slice -/
/-- the operations that lay its parts -/
def mpOps (tS tM : TypeId) (pos : String) : Nat → Nat → List Mp → List Oper
  | _, _, [] => []
  | d, k, m :: l =>
    { dst := some d, op := .buildSlice tS m.t.length ((m.t.zipIdx 0).map fun x => (x.2, Operand.const (Value.int .i64 x.1))).toArray, type := tS, pos := pos, after := #[], guard := none } ::
    { dst := some (d + 1), op := .build tM #[(0, .const (.int .i64 m.f)), (1, .tmp d)], type := tM, pos := pos, after := #[{ on := k, ground := .data }], guard := none } :: mpOps tS tM pos (d + 2) (k + 2) l

theorem wpList_mps {P : Program} {ops : Array Oper} {rest : List Oper} {Q : Exit → Act → World → Prop} (tS tM : TypeId) (pos : String) (hu : P.underlying tS = some (.slice 3)) (hsz : (P.info? 3).map (·.size) = some 1) (hz : ((P.info? 3).bind (·.zero)).isSome = true)
    (hb : ∀ (x : Int) (B n : Nat), P.built tM [(0, .int .i64 x), (1, .slice (some ⟨B, 0, none⟩) n n)] = some #[.int .i64 x, .slice (some ⟨B, 0, none⟩) n n]) (base : Nat) :
    ∀ (l : List Mp) (d k : Nat) (a : Act) (w : World), d + 2 * l.length ≤ a.tmps.size → (l.all fun m => decide (0 < m.t.length) && decide (m.t.length ≤ 100)) = true → base ≤ w.heap.size →
      (∀ (a' : Act) (w' : World) (us : List Value), a'.tmps.size = a.tmps.size → a'.defers = a.defers → Tos base w' l us → (∀ i, i < l.length → a'.eval (.tmp (d + 2 * i + 1)) = .agg #[.int .i64 (l.getD i noMp).f, us.getD i undef]) →
        (∀ j, j < d → a'.eval (.tmp j) = a.eval (.tmp j)) → Below w.heap.size w w' → wpList P ops Q rest a' w') →
      wpList P ops Q (mpOps tS tM pos d k l ++ rest) a w
  | [], d, k, a, w, _, _, _, h => h a w [] rfl rfl trivial (fun i hi => by simp at hi) (fun _ _ => rfl) (Below.refl _ _)
  | m :: l, d, k, a, w, hd, hm, hbs, h => by
    simp only [List.all_cons, Bool.and_eq_true, decide_eq_true_eq] at hm
    have hlt : d + 1 < a.tmps.size := by simp at hd; omega
    show wpList P ops Q (_ :: _ :: (mpOps tS tM pos (d + 2) (k + 2) l ++ rest)) a w
    refine wpList_buildFlatAt rfl tS 3 m.t.length _ rfl .i64 m.t w.heap.size rfl (some d) rfl hu hsz hz rfl hm.1.1 (by omega) rfl ?_
    refine wpList_buildTo rfl tM _ rfl (some (d + 1)) rfl #[.int .i64 m.f, .slice (some ⟨w.heap.size, 0, none⟩) m.t.length m.t.length] ?_ ?_
    · have e := Act.eval_put_same a d (.slice (some ⟨w.heap.size, 0, none⟩) m.t.length m.t.length) (by omega)
      simp only [List.map_toArray, List.map_cons, List.map_nil]
      rw [e]
      exact hb _ _ _
    have ho : Own .i64 3 base (w.alloc (.cells (m.t.map (Value.int .i64)).toArray 3)) (.slice (some ⟨w.heap.size, 0, none⟩) m.t.length m.t.length) m.t := lit_own rfl hbs rfl rfl (by omega)
    have hbl := Below.alloc (Below.refl w.heap.size w) (Nat.le_refl _) (.cells (m.t.map (Value.int .i64)).toArray 3)
    refine wpList_mps tS tM pos hu hsz hz hb base l (d + 2) (k + 2) _ _ (by rw [Act.size_put, Act.size_put]; simp at hd; omega) hm.2 (Nat.le_trans hbs hbl.size) fun a' w' us hs hdf hts hev hlow hb' => ?_
    refine h a' w' (.slice (some ⟨w.heap.size, 0, none⟩) m.t.length m.t.length :: us) (hs.trans (by rw [Act.size_put, Act.size_put])) (hdf.trans (by rw [Act.defers_put', Act.defers_put'])) ⟨ho.below hb', hts⟩ (fun i hi => ?_) (fun j hj => ?_) (hbl.trans (hb'.mono hbl.size))
    · cases i with
      | zero =>
        rw [show d + 2 * 0 + 1 = d + 1 by omega, hlow (d + 1) (by omega), Act.eval_put_same _ _ _ (by rw [Act.size_put]; omega)]
        rfl
      | succ i =>
        have := hev i (by simpa using hi)
        rw [show d + 2 * (i + 1) + 1 = d + 2 + 2 * i + 1 by omega, this]
        rfl
    · rw [hlow j (by omega), Act.eval_put_ne _ _ _ _ (by omega), Act.eval_put_ne _ _ _ _ (by omega)]

/-- the slice over them -/
theorem wpList_buildMps {P : Program} {ops : Array Oper} {rest : List Oper} {o : Oper} {a : Act} {w : World} {Q : Exit → Act → World → Prop} (hg : o.guard = none) (t e : TypeId) (parts : Array (Nat × Operand)) (l : List Mp) (n : Nat) (hn : n = l.length) (us : List Value)
    (ho : o.op = .buildSlice t n parts) (d : Nat) (N : Nat) (hN : w.heap.size = N) (dst : Option Tmp) (hdst : o.dst = dst) (base : Nat) (hbs : base ≤ w.heap.size)
    (hu : P.underlying t = some (.slice e)) (hsz : (P.info? e).map (·.size) = some 2) (hz : ((P.info? e).bind (·.zero)).isSome = true)
    (hpos : 0 < l.length) (hsmall : l.length ≤ 100000) (hparts : parts.toList = (List.range n).map fun i => (i, Operand.tmp (d + 2 * i + 1))) (hts : Tos base w l us)
    (hev : ∀ i, i < l.length → a.eval (.tmp (d + 2 * i + 1)) = .agg #[.int .i64 (l.getD i noMp).f, us.getD i undef])
    (h : ∀ w', OwnM e base w' (.slice (some ⟨N, 0, none⟩) n n) l → Below w.heap.size w w' → wpList P ops Q rest (a.put dst (.slice (some ⟨N, 0, none⟩) n n)) w') : wpList P ops Q (o :: rest) a w := by
  subst hN hdst hn
  cases hie : P.info? e with
  | none => simp [hie] at hsz
  | some ie =>
    simp only [hie, Option.map_some, Option.some.injEq, Option.bind_some] at hsz hz
    obtain ⟨z, hzz⟩ := Option.isSome_iff_exists.1 hz
    have hl := hts.len
    have hbl := Below.alloc (Below.refl w.heap.size w) (Nat.le_refl _) (.cells (mv l us).toArray e)
    refine wpList_buildSlice hg t e l.length parts ho (mv l us).toArray ie z hu hie hzz (by rw [hsz]; omega) (by rw [hsz]; omega) ?_ (h _ ⟨us, hts.map fun u xs hu => hu.below hbl, ?_⟩ hbl)
    · have e0 : ∀ (l : List Mp) (us : List Value), us.length = l.length → (List.zipWith (fun (m : Mp) u => Value.agg #[.int .i64 m.f, u]) l us).flatMap (fun v => v.cells.toList) = mv l us := fun l => by
        induction l with
        | nil => intro us _; cases us <;> rfl
        | cons m l ih =>
          intro us hus
          cases us with
          | nil => simp at hus
          | cons u us => rw [List.zipWith_cons_cons, List.flatMap_cons, ih us (by simpa using hus)]; rfl
      have e1 : (parts.map fun (i, x) => (i, a.eval x)).toList = ((List.zipWith (fun (m : Mp) u => Value.agg #[.int .i64 m.f, u]) l us).zipIdx 0).map fun x => (x.2, x.1) := by
        rw [Array.toList_map, hparts, List.map_map]
        apply List.ext_getElem
        · simp [hl]
        · intro i h1 h2
          have hi : i < l.length := by simpa using h1
          simp only [List.getElem_map, List.getElem_range, Function.comp, List.getElem_zipIdx, Nat.zero_add, List.getElem_zipWith]
          rw [hev i hi]
          simp only [List.getD_eq_getElem?_getD, List.getElem?_eq_getElem hi, List.getElem?_eq_getElem (show i < us.length by omega), Option.getD_some]
      rw [e1, hsz]
      have := Go.Great.fill_whole (s := 2) (by omega) (List.zipWith (fun (m : Mp) u => Value.agg #[.int .i64 m.f, u]) l us) ((Array.range (l.length * 2)).map (z.cells[· % z.cells.size]!))
        (fun v hv => by
          obtain ⟨i, hi, rfl⟩ := List.getElem_of_mem hv
          rw [List.getElem_zipWith]
          rfl) (by simp [hl])
      rw [this, e0 l us hl]
    · have := World.ownsRow_lit (base := base) (e := e) (size := 2) w (mv l us).toArray l.length hbs (by unfold maxLen; omega) (by simp [mv_len hl])
      simpa using this
theorem Tryz.infoMp : (Tryz.prog.info? 97).map (fun i => (i.zero, i.size, i.bytes)) = some (some (.agg #[.int .i64 0, .slice none 0 0]), 2, 32) := by kernel_rfl

theorem laid_two (w : World) (A : Obj) (cs : Array Value) (e : TypeId) (j : Nat) : ((w.alloc A).alloc (.cells cs e)).cell? ⟨w.heap.size + 1, j, none⟩ = cs[j]? := by
  have := heap_alloc_new (w.alloc A) (.cells cs e)
  rw [cell_of_row _ (w.heap.size + 1) j cs e (0, 0) (by simpa using this)]
theorem laid_own (w : World) {base : Nat} (hb : base ≤ w.heap.size) (x : Int) (B : Obj) : Own .i64 3 base ((w.alloc (.cells #[.int .i64 x] 3)).alloc B) (.slice (some ⟨w.heap.size, 0, none⟩) 1 1) [x] :=
  Own.below (lit_own (xs := [x]) rfl hb rfl rfl (by simp)) (Below.alloc (Below.refl _ _) (Nat.le_refl _) _)
end Go.Proofs.YtidjjaginindoaaGreat

/-! RngMath -/
namespace Go.Proofs.YtidjjaginindoaaGreat

theorem packN_at (g : Nat → Int) : ∀ {n k : Nat}, k < n → (packN g n).1.getD k 0 = (packN g k).2.idxOf (blk g k)
  | n + 1, k, h => by
    have hl := (packN_ok g n).len
    rw [packN]
    rcases Nat.lt_or_ge k n with h1 | h1
    · rw [List.getD_eq_getElem?_getD, List.getElem?_append_left (by omega), ← List.getD_eq_getElem?_getD]
      exact packN_at g h1
    · obtain rfl : k = n := by omega
      rw [List.getD_eq_getElem?_getD, List.getElem?_append_right (by omega), hl, Nat.sub_self]
      rfl
/-- the number of blocks met among the first k groups -/
def seenN (g : Nat → Int) (k : Nat) : Nat := (packN g k).2.length
theorem seenN_next (g : Nat → Int) {n k : Nat} (h : k < n) : (packN g n).1.getD k 0 ≤ seenN g k ∧ seenN g (k + 1) = if (packN g n).1.getD k 0 = seenN g k then seenN g k + 1 else seenN g k := by
  rw [packN_at g h]
  unfold seenN
  rw [packN]
  by_cases hm : blk g k ∈ (packN g k).2
  · have hlt := List.idxOf_lt_length_iff.2 hm
    simp only [if_pos hm]
    rw [if_neg (by omega)]
    exact ⟨by omega, rfl⟩
  · have he := List.idxOf_eq_length hm
    simp only [if_neg hm]
    rw [if_pos he]
    exact ⟨by omega, by simp⟩

/-! ### no more than three blocks a range, and one -/
theorem sub_len {α : Type} [DecidableEq α] : ∀ {a b : List α}, a.Nodup → (∀ x ∈ a, x ∈ b) → a.length ≤ b.length
  | [], _, _, _ => Nat.zero_le _
  | x :: a, b, hn, hs => by
    rw [List.nodup_cons] at hn
    have hx := hs x (List.mem_cons_self ..)
    have ih := sub_len (a := a) (b := b.erase x) hn.2 (fun y hy => (List.mem_erase_of_ne (by rintro rfl; exact hn.1 hy)).2 (hs y (List.mem_cons_of_mem _ hy)))
    rw [List.length_erase_of_mem hx] at ih
    have := List.length_pos_of_mem hx
    simp only [List.length_cons]
    omega
def con (v : Int) : List Int := List.replicate 256 v
theorem con_eq {b : List Int} {v : Int} (hl : b.length = 256) (h : ∀ i, i < 256 → b.getD i 0 = v) : b = con v := by
  apply List.ext_getElem
  · rw [hl]; exact List.length_replicate.symm
  · intro i h1 h2
    have := h i (by omega)
    rw [List.getD_eq_getElem?_getD, List.getElem?_eq_getElem h1] at this
    exact this.trans (List.getElem_replicate (h := by rw [List.length_replicate]; omega)).symm
def tabG (l : List Rg) : Nat → Int := fun c => lookS l (c : Int)
theorem blk_kind {l : List Rg} (h : okL (-1) l) (k : Nat) : blk (tabG l) k ∈ con 0 :: (l.map (fun r => con r.v) ++ (l.map (fun r => blk (tabG l) (r.f / 256).toNat) ++ l.map (fun r => blk (tabG l) (r.t / 256).toNat))) := by
  by_cases hz : ∀ i, i < 256 → tabG l (256 * k + i) = 0
  · refine List.mem_cons.2 (.inl ?_)
    exact con_eq (blk_len _ _) fun i hi => by rw [blk_at _ _ _ hi]; exact hz i hi
  · obtain ⟨i, hi⟩ := Classical.not_forall.1 hz
    obtain ⟨hi1, hi2⟩ := Classical.not_imp.1 hi
    obtain ⟨r, hr, h1, h2, h3⟩ := lookS_some hi2
    have hok := okL_mem h hr
    unfold maxS at hok
    refine List.mem_cons.2 (.inr ?_)
    by_cases hf : (256 * k : Int) ≤ r.f ∧ ¬ r.f = 256 * k
    · refine List.mem_append.2 (.inr (List.mem_append.2 (.inl (List.mem_map.2 ⟨r, hr, ?_⟩))))
      rw [show (r.f / 256).toNat = k by omega]
    · by_cases ht : r.t < (256 * k + 255 : Int)
      · refine List.mem_append.2 (.inr (List.mem_append.2 (.inr (List.mem_map.2 ⟨r, hr, ?_⟩))))
        rw [show (r.t / 256).toNat = k by omega]
      · refine List.mem_append.2 (.inl (List.mem_map.2 ⟨r, hr, ?_⟩))
        refine (con_eq (blk_len _ _) fun j hj => ?_).symm
        rw [blk_at _ _ _ hj]
        exact lookS_mem h hr (by omega) (by omega)
theorem pack_small {l : List Rg} (h : okL (-1) l) (n : Nat) : (packN (tabG l) n).2.length ≤ 3 * l.length + 1 := by
  have hk := packN_ok (tabG l) n
  have := sub_len hk.nodup (b := con 0 :: (l.map (fun r => con r.v) ++ (l.map (fun r => blk (tabG l) (r.f / 256).toNat) ++ l.map (fun r => blk (tabG l) (r.t / 256).toNat)))) (fun b hb => by
    obtain ⟨k, _, rfl⟩ := hk.from_ b hb
    exact blk_kind h k)
  rw [List.length_cons, List.length_append, List.length_append, List.length_map, List.length_map, List.length_map] at this
  omega

/-! ### the fewest ranges -/
/-- one number more -/
def rleStep (l : List Rg) (c : Nat) (v : Int) : List Rg :=
  if v = 0 then l else
    match l.getLast? with
    | some r => if r.t = (c : Int) - 1 ∧ r.v = v then l.dropLast ++ [⟨r.f, c, v⟩] else l ++ [⟨c, c, v⟩]
    | none => [⟨c, c, v⟩]
def rle (g : Nat → Int) : Nat → List Rg
  | 0 => []
  | n + 1 => rleStep (rle g n) n (g n)
/-- what is known of the ranges of the first n numbers -/
structure RleOk (g : Nat → Int) (n : Nat) (l : List Rg) : Prop where
  mem : ∀ r ∈ l, 0 ≤ r.f ∧ r.f ≤ r.t ∧ r.t < n ∧ r.v ≠ 0 ∧ (∀ c : Nat, r.f ≤ c → c ≤ r.t → g c = r.v) ∧ (r.f = 0 ∨ g (r.f - 1).toNat ≠ r.v)
  cov : ∀ c : Nat, c < n → g c ≠ 0 → ∃ r ∈ l, r.f ≤ (c : Int) ∧ (c : Int) ≤ r.t
  ord : l.Pairwise fun a b => a.t < b.f
  max : ∀ r ∈ l, r.t + 1 < n → g (r.t + 1).toNat ≠ r.v
theorem last_split {l : List Rg} {r : Rg} (h : l.getLast? = some r) : l = l.dropLast ++ [r] := by
  have hne : l ≠ [] := by rintro rfl; simp at h
  rw [List.getLast?_eq_some_getLast hne] at h
  injection h with h
  rw [← h, List.dropLast_concat_getLast]
theorem rle_ok (g : Nat → Int) : ∀ n, RleOk g n (rle g n)
  | 0 => ⟨fun _ h => (nomatch h), fun _ h => absurd h (by omega), List.Pairwise.nil, fun _ h => (nomatch h)⟩
  | n + 1 => by
    have ih := rle_ok g n
    rw [rle]
    generalize rle g n = l at ih
    unfold rleStep
    by_cases hv : g n = 0
    · rw [if_pos hv]
      refine ⟨fun r hr => ?_, fun c hc hg => ?_, ih.ord, fun r hr h1 => ?_⟩
      · obtain ⟨h1, h2, h3, h4, h5, h6⟩ := ih.mem r hr
        exact ⟨h1, h2, by omega, h4, h5, h6⟩
      · rcases Nat.lt_or_ge c n with h1 | h1
        · exact ih.cov c h1 hg
        · obtain rfl : c = n := by omega
          exact absurd hv hg
      · obtain ⟨k1, k2, k3, k4, k5, k6⟩ := ih.mem r hr
        by_cases h2 : r.t + 1 < n
        · exact ih.max r hr h2
        · have : (r.t + 1).toNat = n := by omega
          rw [this, hv]
          exact fun e => k4 e.symm
    · rw [if_neg hv]
      cases hlast : l.getLast? with
      | none =>
        have hl : l = [] := List.getLast?_eq_none_iff.1 hlast
        subst hl
        refine ⟨fun r hr => ?_, fun c hc hg => ?_, List.pairwise_singleton _ _, fun r hr h1 => ?_⟩
        · simp only [List.mem_singleton] at hr
          subst hr
          refine ⟨by simp, by simp, by simp; omega, hv, fun c h1 h2 => ?_, ?_⟩
          · simp only at h1 h2
            rw [show c = n by omega]
          · rcases Nat.eq_zero_or_pos n with h0 | h0
            · left; simp [h0]
            · right
              simp only
              intro he
              have h1 : g (n - 1) ≠ 0 := by rw [show ((n : Int) - 1).toNat = n - 1 by omega] at he; rw [he]; exact hv
              obtain ⟨r, hr, _⟩ := ih.cov (n - 1) (by omega) h1
              cases hr
        · rcases Nat.lt_or_ge c n with h1 | h1
          · obtain ⟨r, hr, _⟩ := ih.cov c h1 hg
            cases hr
          · exact ⟨_, List.mem_singleton.2 rfl, by simp; omega, by simp; omega⟩
        · simp only [List.mem_singleton] at hr
          subst hr
          simp at h1
      | some r =>
        have hsplit := last_split hlast
        generalize l.dropLast = d at hsplit
        subst hsplit
        clear hlast
        obtain ⟨k1, k2, k3, k4, k5, k6⟩ := ih.mem r (by simp)
        have hord := ih.ord
        rw [List.pairwise_append] at hord
        obtain ⟨o1, _, o3⟩ := hord
        simp only
        by_cases hx : r.t = (n : Int) - 1 ∧ r.v = g n
        · rw [if_pos hx]
          obtain ⟨x1, x2⟩ := hx
          refine ⟨fun s hs => ?_, fun c hc hg => ?_, ?_, fun s hs h1 => ?_⟩
          · rcases List.mem_append.1 hs with hs | hs
            · obtain ⟨h1, h2, h3, h4, h5, h6⟩ := ih.mem s (List.mem_append_left _ hs)
              exact ⟨h1, h2, by omega, h4, h5, h6⟩
            · simp only [List.mem_singleton] at hs
              subst hs
              refine ⟨k1, by simp only; omega, by simp only; omega, hv, fun c h1 h2 => ?_, ?_⟩
              · simp only at h1 h2 ⊢
                rcases Nat.lt_or_ge c n with h3 | h3
                · rw [k5 c h1 (by omega), x2]
                · rw [show c = n by omega]
              · simp only; rw [← x2]; exact k6
          · rcases Nat.lt_or_ge c n with h1 | h1
            · obtain ⟨s, hs, h2, h3⟩ := ih.cov c h1 hg
              rcases List.mem_append.1 hs with hs | hs
              · exact ⟨s, List.mem_append_left _ hs, h2, h3⟩
              · simp only [List.mem_singleton] at hs
                subst hs
                exact ⟨_, List.mem_append_right _ (List.mem_singleton.2 rfl), h2, by simp only; omega⟩
            · exact ⟨_, List.mem_append_right _ (List.mem_singleton.2 rfl), by simp only; omega, by simp only; omega⟩
          · rw [List.pairwise_append]
            exact ⟨o1, List.pairwise_singleton _ _, fun a ha b hb => by
              simp only [List.mem_singleton] at hb
              subst hb
              exact o3 a ha r (by simp)⟩
          · rcases List.mem_append.1 hs with hs | hs
            · have := o3 s hs r (by simp)
              exact ih.max s (List.mem_append_left _ hs) (by omega)
            · simp only [List.mem_singleton] at hs
              subst hs
              simp only at h1
              omega
        · rw [if_neg hx]
          refine ⟨fun s hs => ?_, fun c hc hg => ?_, ?_, fun s hs h1 => ?_⟩
          · rcases List.mem_append.1 hs with hs | hs
            · obtain ⟨h1, h2, h3, h4, h5, h6⟩ := ih.mem s hs
              exact ⟨h1, h2, by omega, h4, h5, h6⟩
            · simp only [List.mem_singleton] at hs
              subst hs
              refine ⟨by simp, by simp, by simp; omega, hv, fun c h1 h2 => ?_, ?_⟩
              · simp only at h1 h2
                rw [show c = n by omega]
              · rcases Nat.eq_zero_or_pos n with h0 | h0
                · left; simp [h0]
                · right
                  simp only
                  rw [show ((n : Int) - 1).toNat = n - 1 by omega]
                  intro he
                  obtain ⟨s, hs, h1, h2⟩ := ih.cov (n - 1) (by omega) (by rw [he]; exact hv)
                  rcases List.mem_append.1 hs with hs | hs
                  · have := o3 s hs r (by simp)
                    omega
                  · simp only [List.mem_singleton] at hs
                    subst hs
                    have := k5 (n - 1) h1 h2
                    exact hx ⟨by omega, by rw [← this, he]⟩
          · rcases Nat.lt_or_ge c n with h1 | h1
            · obtain ⟨s, hs, h2, h3⟩ := ih.cov c h1 hg
              exact ⟨s, List.mem_append_left _ hs, h2, h3⟩
            · exact ⟨_, List.mem_append_right _ (List.mem_singleton.2 rfl), by simp only; omega, by simp only; omega⟩
          · rw [List.pairwise_append]
            exact ⟨ih.ord, List.pairwise_singleton _ _, fun a ha b hb => by
              simp only [List.mem_singleton] at hb
              subst hb
              have := (ih.mem a ha).2.2.1
              simp only
              omega⟩
          · rcases List.mem_append.1 hs with hs | hs
            · by_cases h2 : s.t + 1 < n
              · exact ih.max s hs h2
              · have hst : s.t = (n : Int) - 1 := by have := (ih.mem s hs).2.2.1; omega
                rw [show (s.t + 1).toNat = n by omega]
                rcases List.mem_append.1 hs with hs | hs
                · have := o3 s hs r (by simp)
                  omega
                · simp only [List.mem_singleton] at hs
                  subst hs
                  exact fun e => hx ⟨hst, e.symm⟩
            · simp only [List.mem_singleton] at hs
              subst hs
              simp at h1
/-- it is a right table, where it is not too long -/
theorem rle_flat {g : Nat → Int} {n : Nat} {l : List Rg} (h : RleOk g n l) (hn : (n : Int) ≤ maxS + 1) (hv : ∀ c, c < n → 0 ≤ g c ∧ g c ≤ 65535) : okL (-1) l := by
  have key : ∀ (l : List Rg) (p : Int), (∀ r ∈ l, 0 ≤ r.f ∧ r.f ≤ r.t ∧ r.t < n ∧ 1 ≤ r.v ∧ r.v ≤ 65535 ∧ p < r.f) → l.Pairwise (fun a b => a.t < b.f) → okL p l := by
    intro l
    induction l with
    | nil => intro _ _ _; trivial
    | cons r l ih =>
      intro p h1 h2
      rw [List.pairwise_cons] at h2
      have hr := h1 r (List.mem_cons_self ..)
      refine ⟨?_, ih r.t (fun s hs => ?_) h2.2⟩
      · unfold okR; omega
      · have := h1 s (List.mem_cons_of_mem _ hs)
        have := h2.1 s hs
        omega
  refine key l (-1) (fun r hr => ?_) h.ord
  obtain ⟨h1, h2, h3, h4, h5, _⟩ := h.mem r hr
  have e := h5 r.f.toNat (by omega) (by omega)
  have := hv r.f.toNat (by omega)
  omega
/-- it says the same -/
theorem rle_look {g : Nat → Int} {n : Nat} {l : List Rg} (h : RleOk g n l) (hf : okL (-1) l) {c : Nat} (hc : c < n) : lookS l c = g c := by
  by_cases hz : g c = 0
  · rw [hz]
    by_cases hl : lookS l c = 0
    · exact hl
    · obtain ⟨r, hr, h1, h2, h3⟩ := lookS_some hl
      obtain ⟨_, _, _, h4, h5, _⟩ := h.mem r hr
      exact absurd ((h5 c h1 h2).symm.trans hz) h4
  · obtain ⟨r, hr, h1, h2⟩ := h.cov c hc hz
    obtain ⟨_, _, _, _, h5, _⟩ := h.mem r hr
    rw [lookS_mem hf hr h1 h2, h5 c h1 h2]
/-- no table that says the same has fewer -/
theorem rle_few {g : Nat → Int} {n : Nat} {l m : List Rg} (h : RleOk g n l) (hm : ∀ c : Nat, c < n → lookS m c = g c) (hk : okL (-1) m) : l.length ≤ m.length := by
  have hn : (l.map Rg.f).Nodup := by
    unfold List.Nodup
    rw [List.pairwise_map]
    refine h.ord.imp_of_mem fun {a b} ha hb hab => ?_
    have := (h.mem a ha).2.1
    have := (h.mem b hb).2.1
    omega
  have := sub_len hn (b := m.map Rg.f) (fun x hx => by
    obtain ⟨r, hr, rfl⟩ := List.mem_map.1 hx
    obtain ⟨h1, h2, h3, h4, h5, h6⟩ := h.mem r hr
    have e := h5 r.f.toNat (by omega) (by omega)
    have e2 := hm r.f.toNat (by omega)
    rw [e] at e2
    obtain ⟨s, hs, k1, k2, k3⟩ := lookS_some (l := m) (c := (r.f.toNat : Int)) (by rw [e2]; exact h4)
    have hsv : s.v = r.v := by rw [← k3, e2]
    refine List.mem_map.2 ⟨s, hs, ?_⟩
    rcases h6 with h6 | h6
    · have := (okL_mem hk hs).1
      omega
    · by_cases hlt : s.f < r.f
      · have e3 := hm (r.f - 1).toNat (by omega)
        rw [lookS_mem hk hs (by omega) (by omega), hsv] at e3
        exact absurd e3.symm h6
      · omega)
  simpa using this
end Go.Proofs.YtidjjaginindoaaGreat

/-! RngPack -/
namespace Go.Proofs.YtidjjaginindoaaGreat

theorem lookS_left : ∀ {a b : List Rg} {c : Int}, (∀ r ∈ b, ¬ (r.f ≤ c ∧ c ≤ r.t)) → lookS (a ++ b) c = lookS a c
  | [], [], _, _ => rfl
  | [], r :: b, c, h => by
    have h0 := h r (List.mem_cons_self ..)
    have e : lookS (r :: b) c = lookS b c := by rw [lookS, if_neg h0]
    rw [List.nil_append, e]
    exact lookS_left (a := []) (fun s hs => h s (List.mem_cons_of_mem _ hs))
  | x :: a, b, c, h => by
    rw [List.cons_append, lookS, lookS, lookS_left h]
theorem lookS_right : ∀ {a b : List Rg} {c : Int}, (∀ r ∈ a, ¬ (r.f ≤ c ∧ c ≤ r.t)) → lookS (a ++ b) c = lookS b c
  | [], _, _, _ => rfl
  | x :: a, b, c, h => by
    rw [List.cons_append, lookS, if_neg (h x (List.mem_cons_self ..))]
    exact lookS_right fun r hr => h r (List.mem_cons_of_mem _ hr)
theorem okL_low : ∀ {l : List Rg} {p : Int}, okL p l → ∀ r ∈ l, p < r.f
  | [], _, _, _, hm => by cases hm
  | x :: l, p, h, r, hm => by
    have hx := h.1
    unfold okR at hx
    rcases List.mem_cons.1 hm with rfl | hm
    · omega
    · have := okL_low h.2 r hm; omega
theorem okL_pair : ∀ {l : List Rg} {p : Int}, okL p l → l.Pairwise fun a b => a.t < b.f
  | [], _, _ => List.Pairwise.nil
  | _ :: _, _, h => List.pairwise_cons.2 ⟨fun r hr => okL_low h.2 r hr, okL_pair h.2⟩
theorem take_rg {l : List Rg} {i : Nat} (h : i < l.length) : l.take (i + 1) = l.take i ++ [l.getD i noRg] := by
  rw [List.take_add_one, List.getD_eq_getElem?_getD, List.getElem?_eq_getElem h]; rfl
theorem mem_take_rg {l : List Rg} {i : Nat} {r : Rg} (h : r ∈ l.take i) : ∃ j, j < i ∧ j < l.length ∧ l.getD j noRg = r := by
  obtain ⟨j, hj, rfl⟩ := List.getElem_of_mem h
  rw [List.length_take] at hj
  exact ⟨j, by omega, by omega, by rw [List.getD_eq_getElem?_getD, List.getElem?_eq_getElem (by omega)]; simp⟩
theorem mem_drop_rg {l : List Rg} {i : Nat} {r : Rg} (h : r ∈ l.drop i) : ∃ j, i ≤ j ∧ j < l.length ∧ l.getD j noRg = r := by
  obtain ⟨j, hj, rfl⟩ := List.getElem_of_mem h
  rw [List.length_drop] at hj
  exact ⟨i + j, by omega, by omega, by rw [List.getD_eq_getElem?_getD, List.getElem?_eq_getElem (by omega)]; simp⟩
theorem rg_pair {l : List Rg} (h : okL (-1) l) {i j : Nat} (hij : i < j) (hj : j < l.length) : (l.getD i noRg).t < (l.getD j noRg).f := by
  have := List.pairwise_iff_getElem.1 (okL_pair h) i j (by omega) hj hij
  rw [List.getD_eq_getElem?_getD, List.getD_eq_getElem?_getD, List.getElem?_eq_getElem (by omega), List.getElem?_eq_getElem hj]
  exact this
theorem rg_ok {l : List Rg} (h : okL (-1) l) {i : Nat} (hi : i < l.length) : 0 ≤ (l.getD i noRg).f ∧ (l.getD i noRg).f ≤ (l.getD i noRg).t ∧ (l.getD i noRg).t ≤ 1114111 ∧ 1 ≤ (l.getD i noRg).v ∧ (l.getD i noRg).v ≤ 65535 := by
  rw [List.getD_eq_getElem?_getD, List.getElem?_eq_getElem hi]
  exact okL_mem h (List.getElem_mem hi)
theorem pk_start {l : List Rg} {a : Nat} {b c : Int} (h : ∀ j, j < a → (l.getD j noRg).t < b) (hc : b ≤ c) : lookS (l.take a) c = 0 := by
  have := lookS_right (a := l.take a) (b := []) (c := c) fun r hr => by
    obtain ⟨j, hj, _, rfl⟩ := mem_take_rg hr
    have := h j hj
    omega
  rw [List.append_nil] at this
  rw [this]
  rfl
theorem pk_hit {l : List Rg} (h : okL (-1) l) {i : Nat} (hi : i < l.length) {c : Int} (hc : (l.getD i noRg).f ≤ c ∧ c ≤ (l.getD i noRg).t) : lookS (l.take (i + 1)) c = (l.getD i noRg).v := by
  rw [take_rg hi, lookS_right fun r hr => by
    obtain ⟨j, hj, _, rfl⟩ := mem_take_rg hr
    have := rg_pair h hj hi
    omega]
  rw [lookS, if_pos hc]
theorem pk_miss {l : List Rg} {i : Nat} (hi : i < l.length) {c : Int} (hc : ¬ ((l.getD i noRg).f ≤ c ∧ c ≤ (l.getD i noRg).t)) : lookS (l.take (i + 1)) c = lookS (l.take i) c := by
  rw [take_rg hi]
  exact lookS_left fun r hr => by
    simp only [List.mem_singleton] at hr
    subst hr
    exact hc
theorem pk_end {l : List Rg} (h : okL (-1) l) {i : Nat} {b c : Int} (hi : i = l.length ∨ b ≤ (l.getD i noRg).f) (hc : c < b) : lookS (l.take i) c = lookS l c := by
  have e : lookS (l.take i ++ l.drop i) c = lookS (l.take i) c := lookS_left fun r hr => by
    obtain ⟨j, hj, hjl, rfl⟩ := mem_drop_rg hr
    rcases hi with hi | hi
    · omega
    · rcases Nat.lt_or_ge i j with h1 | h1
      · have := rg_pair h h1 hjl
        have := rg_ok h (show i < l.length by omega)
        omega
      · obtain rfl : i = j := by omega
        omega
  rw [List.take_append_drop] at e
  exact e.symm

/-- a row of numbers as cells -/
def iv (ys : List Int) : List Value := ys.map (Value.int .i64)
theorem iv_len (ys : List Int) : (iv ys).length = ys.length := by simp [iv]
theorem iv_at {ys : List Int} {i : Nat} (h : i < ys.length) : (iv ys)[i]? = some (.int .i64 (ys.getD i 0)) := by
  simp [iv, List.getD_eq_getElem?_getD, List.getElem?_eq_getElem h]
theorem iv_set (ys : List Int) (i : Nat) (v : Int) : (iv ys).set i (.int .i64 v) = iv (ys.set i v) := by simp [iv, List.map_set]
theorem set_getD {ys : List Int} {i j : Nat} {v : Int} (h : i < ys.length) : (ys.set i v).getD j 0 = if j = i then v else ys.getD j 0 := by
  simp only [List.getD_eq_getElem?_getD, List.getElem?_set]
  by_cases hij : i = j
  · subst hij; simp [h]
  · rw [if_neg hij, if_neg (fun e => hij e.symm)]
theorem con_len (v : Int) : (con v).length = 256 := List.length_replicate
theorem con_at {v : Int} {i : Nat} (h : i < 256) : (con v).getD i 0 = v := by
  rw [List.getD_eq_getElem?_getD, List.getElem?_eq_getElem (by rw [con_len]; exact h)]
  exact List.getElem_replicate _
theorem blk_eq {g : Nat → Int} {k : Nat} {ys : List Int} (hl : ys.length = 256) (h : ∀ j, j < 256 → ys.getD j 0 = g (256 * k + j)) : ys = blk g k := by
  apply List.ext_getElem (by rw [hl, blk_len])
  intro i h1 h2
  have := h i (by omega)
  rw [← blk_at g k i (by omega), List.getD_eq_getElem?_getD, List.getD_eq_getElem?_getD, List.getElem?_eq_getElem h1, List.getElem?_eq_getElem h2] at this
  exact this
/-- searching the blocks one by one -/
theorem idx_found {bs : List (List Int)} {b : List Int} {q : Nat} (hq : q < bs.length) (hb : bs.getD q [] = b) (hn : ∀ i, i < q → bs.getD i [] ≠ b) : bs.idxOf b = q := by
  have hm : b ∈ bs := by
    rw [← hb, List.getD_eq_getElem?_getD, List.getElem?_eq_getElem hq]
    exact List.getElem_mem hq
  have h1 := List.idxOf_lt_length_iff.2 hm
  have h2 : bs.getD (bs.idxOf b) [] = b := by
    rw [List.getD_eq_getElem?_getD, List.getElem?_eq_getElem h1]; simp
  rcases Nat.lt_trichotomy (bs.idxOf b) q with h | h | h
  · exact absurd h2 (hn _ h)
  · exact h
  · have h3 : b ∈ bs.take (q + 1) := by
      rw [List.take_add_one, List.getElem?_eq_getElem hq]
      refine List.mem_append_right _ ?_
      rw [List.getD_eq_getElem?_getD, List.getElem?_eq_getElem hq] at hb
      simp only [Option.getD_some] at hb
      simp [hb]
    have h4 : bs.idxOf b = (bs.take (q + 1)).idxOf b := by
      conv => lhs; rw [← List.take_append_drop (q + 1) bs]
      rw [List.idxOf_append, if_pos h3]
    have h5 := List.idxOf_lt_length_iff.2 h3
    rw [List.length_take] at h5
    omega
theorem idx_none {bs : List (List Int)} {b : List Int} (hn : ∀ i, i < bs.length → bs.getD i [] ≠ b) : b ∉ bs := fun hm => by
  have h1 := List.idxOf_lt_length_iff.2 hm
  refine hn _ h1 ?_
  rw [List.getD_eq_getElem?_getD, List.getElem?_eq_getElem h1]
  simp
theorem pack_next {g : Nat → Int} {k : Nat} (h : blk g k ∉ (packN g k).2) : (packN g (k + 1)).1 = (packN g k).1 ++ [(packN g k).2.length] ∧ (packN g (k + 1)).2 = (packN g k).2 ++ [blk g k] := by
  rw [packN]
  exact ⟨by rw [List.idxOf_eq_length h], by rw [if_neg h]⟩
theorem pack_same {g : Nat → Int} {k : Nat} (h : blk g k ∈ (packN g k).2) : (packN g (k + 1)).1 = (packN g k).1 ++ [(packN g k).2.idxOf (blk g k)] ∧ (packN g (k + 1)).2 = (packN g k).2 := by
  rw [packN]
  exact ⟨rfl, by rw [if_pos h]⟩
theorem nats_snoc (l : List Nat) (n : Nat) : nats (l ++ [n]) = nats l ++ [(n : Int)] := by simp [nats]
theorem flatten_snoc (bs : List (List Int)) (b : List Int) : (bs ++ [b]).flatten = bs.flatten ++ b := by simp
end Go.Proofs.YtidjjaginindoaaGreat

/-! OwnG -/
namespace Go.Proofs.YtidjjaginindoaaGreat
open Go.RowKit

/-- ranges as cells -/
def gv : List Rg → List Value
  | [] => []
  | r :: l => .int .i64 r.f :: .int .i64 r.t :: .int .i64 r.v :: gv l
theorem gv_len : ∀ l : List Rg, (gv l).length = l.length * 3
  | [] => rfl
  | r :: l => by rw [gv, List.length_cons, List.length_cons, List.length_cons, gv_len l, List.length_cons]; omega
theorem gv_app : ∀ l m : List Rg, gv (l ++ m) = gv l ++ gv m
  | [], _ => rfl
  | r :: l, m => by rw [List.cons_append, gv, gv, gv_app l m]; rfl
theorem gv_at : ∀ {l : List Rg} {i : Nat}, i < l.length → (gv l)[i * 3]? = some (.int .i64 (l.getD i noRg).f) ∧ (gv l)[i * 3 + 1]? = some (.int .i64 (l.getD i noRg).t) ∧ (gv l)[i * 3 + 2]? = some (.int .i64 (l.getD i noRg).v)
  | [], _, h => by simp at h
  | r :: l, 0, _ => by simp [gv]
  | r :: l, i + 1, h => by
    have ih := gv_at (l := l) (i := i) (by simpa using h)
    rw [gv, show (i + 1) * 3 = i * 3 + 3 by omega]
    simpa using ih
theorem gv_set : ∀ {l : List Rg} {i : Nat} (c : Int), i < l.length → (gv l).set (i * 3 + 1) (.int .i64 c) = gv (l.set i ⟨(l.getD i noRg).f, c, (l.getD i noRg).v⟩)
  | [], _, _, h => by simp at h
  | r :: l, 0, c, _ => by simp [gv]
  | r :: l, i + 1, c, h => by
    have ih := gv_set (l := l) (i := i) c (by simpa using h)
    rw [gv, show (i + 1) * 3 + 1 = i * 3 + 1 + 3 by omega]
    simp only [List.set_cons_succ, List.getD_cons_succ, ih, gv]
theorem gv_oneCell : ∀ (l : List Rg), ∀ u ∈ gv l, u.oneCell' = true
  | [], _, h => by cases h
  | r :: l, u, h => by
    rw [gv] at h
    simp only [List.mem_cons] at h
    rcases h with rfl | rfl | rfl | h
    · rfl
    · rfl
    · rfl
    · exact gv_oneCell l u h

/-- A slice of ranges of the call's own. -/
def OwnG (e base : Nat) (w : World) (v : Value) (l : List Rg) : Prop := w.ownsRow base e 3 v l.length (gv l)
theorem OwnG.nil (e base : Nat) (w : World) : OwnG e base w (.slice none 0 0) [] := World.ownsRow_nil _ _ _ _
theorem OwnG.drewN {e base : Nat} {w : World} {v : Value} {l : List Rg} (h : OwnG e base w v l) (n : Nat) : OwnG e base (w.drewN n) v l := h
theorem OwnG.sg {e base : Nat} {w : World} {v : Value} {l : List Rg} (h : OwnG e base w v l) : Sg w v l := by
  obtain ⟨h1, h2⟩ := h
  rcases h2 with ⟨rfl, hn⟩ | ⟨g, cap, cur, rfl, hb, hg, hnc, hcm, hcs, ht⟩
  · exact ⟨none, 0, by rw [hn], by omega, by unfold maxLen; omega, .inl rfl⟩
  · have key : ∀ j, j < l.length * 3 → w.cell? ⟨g, 0 + j, none⟩ = (gv l)[j]? := fun j hj => by
      rw [cell_of_row w g (0 + j) cur e (0, 0) hg, ← ht, List.getElem?_take, if_pos hj]
      simp
    refine ⟨some ⟨g, 0, none⟩, cap, rfl, hnc, hcm, .inr ⟨g, 0, rfl, fun _ => (Array.getElem?_eq_some_iff.1 hg).1, fun i hi => ?_⟩⟩
    obtain ⟨a1, a2, a3⟩ := gv_at hi
    exact ⟨(key (i * 3) (by omega)).trans a1, (key (i * 3 + 1) (by omega)).trans a2, (key (i * 3 + 2) (by omega)).trans a3⟩
theorem OwnG.below {e base : Nat} {w w' : World} {v : Value} {l : List Rg} (h : OwnG e base w v l) (hb : Below w.heap.size w w') : OwnG e base w' v l := by
  obtain ⟨h1, h2⟩ := h
  refine ⟨h1, ?_⟩
  rcases h2 with h2 | ⟨g, cap, cur, hv, hg, hh, r⟩
  · exact .inl h2
  · exact .inr ⟨g, cap, cur, hv, hg, by rw [hb.block g (Array.getElem?_eq_some_iff.1 hh).1]; exact hh, r⟩
/-- the last one's end is written over -/
theorem OwnG.last {e base : Nat} {w : World} {v : Value} {l : List Rg} (h : OwnG e base w v l) {i : Nat} (hi : i < l.length) (c : Int) : ∃ g cap, v = .slice (some ⟨g, 0, none⟩) l.length cap ∧ base ≤ g ∧ w.frozen? ⟨g, i * 3 + 1, none⟩ = false ∧
    OwnG e base (w.setCell ⟨g, i * 3 + 1, none⟩ (.int .i64 c)) v (l.set i ⟨(l.getD i noRg).f, c, (l.getD i noRg).v⟩) := by
  obtain ⟨h1, h2⟩ := h
  rcases h2 with ⟨rfl, hn⟩ | ⟨g, cap, cur, rfl, hb, hg, hnc, hcm, hcs, ht⟩
  · omega
  · refine ⟨g, cap, rfl, hb, frozen_of_row w g _ cur e hg, ?_⟩
    refine ⟨by rw [gv_len], .inr ⟨g, cap, cur.setIfInBounds (i * 3 + 1) (.int .i64 c), by rw [List.length_set], hb, ?_, by rw [List.length_set]; exact hnc, hcm, by simpa using hcs, ?_⟩⟩
    · show (w.setCell ⟨g, i * 3 + 1, none⟩ (.int .i64 c)).heap[g]? = _
      simp [World.setCell, Array.getElem?_modify, hg]
    · rw [← gv_set c hi, ← ht, Array.toList_setIfInBounds, List.length_set, List.take_set]
theorem OwnG.mono {e base base' : Nat} {w : World} {v : Value} {l : List Rg} (h : OwnG e base w v l) (hb : base' ≤ base) : OwnG e base' w v l := by
  obtain ⟨h1, h2⟩ := h
  refine ⟨h1, ?_⟩
  rcases h2 with h2 | ⟨g, cap, cur, hv, hg, r⟩
  · exact .inl h2
  · exact .inr ⟨g, cap, cur, hv, by omega, r⟩
theorem OwnG.form {e base : Nat} {w : World} {v : Value} {l : List Rg} (h : OwnG e base w v l) : ∃ a c, v = .slice a l.length c := h.sg.form
/-- where it lies, what its cells hold -/
theorem OwnG.open_ {e base : Nat} {w : World} {v : Value} {l : List Rg} (h : OwnG e base w v l) {i : Nat} (hi : i < l.length) : ∃ g cap, v = .slice (some ⟨g, 0, none⟩) l.length cap ∧ base ≤ g ∧ g < w.heap.size ∧
    w.cell? ⟨g, i * 3 + 1, none⟩ = some (.int .i64 (l.getD i noRg).t) ∧ w.cell? ⟨g, i * 3 + 2, none⟩ = some (.int .i64 (l.getD i noRg).v) ∧ w.frozen? ⟨g, i * 3 + 1, none⟩ = false ∧
    ∀ c, OwnG e base (w.setCell ⟨g, i * 3 + 1, none⟩ (.int .i64 c)) v (l.set i ⟨(l.getD i noRg).f, c, (l.getD i noRg).v⟩) := by
  have hl := fun c => h.last hi c
  obtain ⟨h1, h2⟩ := h
  rcases h2 with ⟨rfl, hn⟩ | ⟨g, cap, cur, rfl, hb, hg, hnc, hcm, hcs, ht⟩
  · omega
  · have key : ∀ j, j < l.length * 3 → w.cell? ⟨g, j, none⟩ = (gv l)[j]? := fun j hj => by
      rw [cell_of_row w g j cur e (0, 0) hg, ← ht, List.getElem?_take, if_pos hj]
      simp
    obtain ⟨_, a2, a3⟩ := gv_at hi
    refine ⟨g, cap, rfl, hb, (Array.getElem?_eq_some_iff.1 hg).1, (key (i * 3 + 1) (by omega)).trans a2, (key (i * 3 + 2) (by omega)).trans a3, frozen_of_row w g _ cur e hg, fun c => ?_⟩
    obtain ⟨g', cap', he, _, _, hown⟩ := hl c
    injection he with he _ _
    injection he with he
    injection he with he
    subst he
    exact hown
/-- append(dst, r) -/
theorem wpList_appG {P : Program} (w : World) {ops : Array Oper} {rest : List Oper} {o : Oper} {a : Act} {Q : Exit → Act → World → Prop} (hgd : o.guard = none) (s x : Operand) (t : TypeId)
    (ho : o.op = .call { callee := .builtin .append, args := #[s, x], argTypes := #[t, t] })
    (base e : Nat) (bytes : Nat) (i : TypeInfo) (z : Value) (ht : P.underlying t = some (.slice e)) (hi : P.info? e = some i) (hz : i.zero = some z) (hsize : i.size = 3) (hby : i.bytes = bytes) (hzs : z.cells.size = 3)
    (v : Value) (l : List Rg) (hs : a.eval s = v) (hown : OwnG e base w v l) (b : Nat) (r : Rg) (hx : a.eval x = .slice (some ⟨b, 0, none⟩) 1 1)
    (hc : w.cell? ⟨b, 0, none⟩ = some (.int .i64 r.f) ∧ w.cell? ⟨b, 1, none⟩ = some (.int .i64 r.t) ∧ w.cell? ⟨b, 2, none⟩ = some (.int .i64 r.v))
    (h63 : l.length + 1 ≤ maxLen) (hbytes : (l.length + 1) * bytes ≤ 140737488355328) (hbase : base ≤ w.heap.size)
    (h : ∀ g cap w', OwnG e base w' (.slice (some ⟨g, 0, none⟩) (l.length + 1) cap) (l ++ [r]) → Below base w w' → wpList P ops Q rest (a.put o.dst (.slice (some ⟨g, 0, none⟩) (l.length + 1) cap)) w') : wpList P ops Q (o :: rest) a w := by
  refine wpList_append_lies w hgd s x t ho base e i z 3 bytes ht hi hz hsize hby hzs (by decide) v l.length (gv l) hs hown ⟨b, 0, none⟩ 1 1 (gv [r]) hx (by simp [gv]) ?_ (gv_oneCell [r]) (by decide) h63 hbytes hbase w.heap.size rfl ?_
  · intro j u hj
    match j, hj with
    | 0, hj => simp [gv] at hj; subst hj; simpa [Addr.add] using hc.1
    | 1, hj => simp [gv] at hj; subst hj; simpa [Addr.add] using hc.2.1
    | 2, hj => simp [gv] at hj; subst hj; simpa [Addr.add] using hc.2.2
    | j + 3, hj => simp [gv] at hj
  · intro g cap w' hown' hg _ _
    exact h g cap w' (by unfold OwnG; rw [gv_app, List.length_append]; exact hown') ((Below.refl base w).grown hg hbase (fun k hk => (World.ownsRow.lt hown k hk).1))
end Go.Proofs.YtidjjaginindoaaGreat

/-! TwinInts -/
namespace Go.Proofs.YtidjjaginindoaaGreat
open Go.RowKit

theorem keepTwinInts (v : Value) (xs : List Int) (w : World) (h : Sl .i64 w v xs) (hl : xs.length ≤ 10000000000000) :
    Calls Tryz.prog 9 #[v] w fun e w' => ∃ v', e = .returned v' ∧ Own .i64 3 w.heap.size w' v' xs ∧ Below w.heap.size w w' := by
  have H := hid h
  obtain ⟨a, cap, rfl, -, -, -⟩ := h
  go_enter Tryz.func9, Tryz.ntmps9
  go_wp2_with (at_builtin; go_loud (refine wpList_app _ rfl _ _ 22 rfl .i64 w.heap.size 3 8 Tryz.underlying22 Tryz.infoI64 _ [] xs rfl (Own.nil _ _ _ _) _ rfl H.out (by unfold maxLen; simp; omega) (by simp; omega) (by omega) ?_); intro v' w' ho hg hb hn)
  go_ret
  exact ⟨_, rfl, ho, hb⟩

end Go.Proofs.YtidjjaginindoaaGreat

/-! HangOk -/
namespace Go.Proofs.YtidjjaginindoaaGreat
open Go.RowKit

def I64n (c : Int) : Prop := -9223372036854775808 ≤ c ∧ c ≤ 9223372036854775807
def SplitOk : Prop := ∀ (c : Int) (w : World), I64n c → Calls Tryz.prog 131 #[.int .i64 c] w fun e w' => ∃ x, e = .returned x ∧ Sl .i64 w' x (splitS c) ∧ Below w.heap.size w w'
def JoinOk : Prop := ∀ (a b : Int) (w : World), I64n a → I64n b → Calls Tryz.prog 111 #[.int .i64 a, .int .i64 b] w fun e w' => e = .returned (.tuple #[.int .i64 (joinS a b).1, .bool (joinS a b).2]) ∧ Below w.heap.size w w'
theorem i64n {c : Int} (h0 : -1000000 ≤ c) (h1 : c ≤ 1000000000) : I64n c := ⟨by omega, by omega⟩

end Go.Proofs.YtidjjaginindoaaGreat

/-! RepNum -/
namespace Go.Proofs.YtidjjaginindoaaGreat
theorem ix_rem (x m : Int) (h0 : 0 < m) (h1 : m ≤ 4294967296) : ∃ K : Int, Go.RowKit.wrap64 ((IntKind.u64.wrap x).tmod m) = K ∧ 0 ≤ K ∧ K < m := by
  have h := ixr' x m h0
  exact ⟨_, by unfold Go.RowKit.wrap64; omega, h.1, h.2⟩
def lenV : Value → Nat
  | .slice _ n _ => n
  | _ => 0
end Go.Proofs.YtidjjaginindoaaGreat

/-! SlAt -/
namespace Go.Proofs.YtidjjaginindoaaGreat
open Go.RowKit

theorem sl_at21 {w : World} {a : Option Addr} {n c : Nat} {l : List Int} (h : Sl .i64 w (.slice a n c) l) {j : Nat} (hj : j < l.length) : ∃ b o, a = some ⟨b, o, none⟩ ∧ b < w.heap.size ∧ w.cell? ⟨b, o + j, none⟩ = some (.int .i64 (l.getD j 0)) := by
  obtain ⟨a', c', hv, hl, -, h⟩ := h
  simp only [Value.slice.injEq] at hv
  obtain ⟨rfl, rfl, rfl⟩ := hv
  rcases h with hz | ⟨b, o, rfl, hb, h⟩
  · rw [hz] at hl; omega
  · exact ⟨b, o, rfl, hb (by omega), h j hj⟩
theorem lit_far {w w' : World} {g : Nat} {y : Int} {row : Option Nat} (h : Sl .i64 w (.slice (some ⟨g, 0, none⟩) 1 1) [y]) (hg : w.grownBy w' row) (hne : ∀ r, row = some r → r < g) : Sl .i64 w' (.slice (some ⟨g, 0, none⟩) 1 1) [y] := by
  obtain ⟨b, o, c, hv, hc⟩ := h.one
  simp only [Value.slice.injEq, Option.some.injEq, Addr.mk.injEq] at hv
  obtain ⟨⟨rfl, rfl, -⟩, -, rfl⟩ := hv
  have hlt := World.block_lt_of_cell? w _ hc
  refine ⟨_, 1, rfl, Nat.le_refl _, by unfold maxLen; omega, .inr ⟨_, 0, rfl, fun _ => Nat.lt_of_lt_of_le hlt hg.size, fun i hi => ?_⟩⟩
  have hi0 : i = 0 := by simp at hi; omega
  subst hi0
  rw [hg.cell_far _ hlt (fun e => absurd (hne _ e.symm) (Nat.lt_irrefl _))]
  exact hc
end Go.Proofs.YtidjjaginindoaaGreat
