/- Several texts in one: Ord9b, Ord9c. -/
import Derived.Test.YtidjjaginindoaaGreatPk36
/-! Ord9b -/
namespace Go.Proofs.YtidjjaginindoaaGreat
open Go.RowKit

theorem make_items (n : Nat) (hn : n ≤ 1000000) (w : World) : (Instr.makeSlice 114 (.int .i64 (n : Int)) (.int .i64 (n : Int))).run Tryz.prog w = .ok (.slice (some ⟨w.heap.size, 0, none⟩) n n) (w.alloc (.cells (List.replicate (n * 2) (Value.int .i64 0)).toArray 119)) := by
  obtain ⟨i, hi, hz0, hz1, hz2⟩ := info_parts Tryz.infoItem
  have := run_make (P := Tryz.prog) w 114 119 i (.agg #[.int .i64 0, .int .i64 0]) (by kernel_rfl) hi hz0 .i64 .i64 (n : Int) (n : Int) (by omega) (by omega) (by rw [hz2]; omega) (by omega)
  rw [this, hz1]
  have e : madeCells (Value.agg #[.int .i64 0, .int .i64 0]).cells ((n : Int).toNat * 2) = (List.replicate (n * 2) (Value.int .i64 0)).toArray := by
    apply Array.ext
    · simp [madeCells]
    · intro j h1 h2
      rcases Nat.mod_two_eq_zero_or_one j with h | h <;> simp [madeCells, Value.cells, h]
  rw [e]
  rfl
theorem make_nums (n : Nat) (hn : n ≤ 1000000) (w : World) : (Instr.makeSlice 22 (.int .i64 (n : Int)) (.int .i64 (n : Int))).run Tryz.prog w = .ok (.slice (some ⟨w.heap.size, 0, none⟩) n n) (w.alloc (.cells (List.replicate n (Value.int .i64 0)).toArray 3)) := by
  obtain ⟨i, hi, hz0, hz1, hz2⟩ := info_parts Tryz.infoI64
  have := run_make (P := Tryz.prog) w 22 3 i (.int .i64 0) Tryz.underlying22 hi hz0 .i64 .i64 (n : Int) (n : Int) (by omega) (by omega) (by rw [hz2]; omega) (by omega)
  rw [this, hz1]
  have e : madeCells (Value.int .i64 0).cells ((n : Int).toNat * 1) = (List.replicate n (Value.int .i64 0)).toArray := by
    apply Array.ext
    · simp [madeCells]
    · intro j h1 h2
      simp [madeCells, Value.cells, Nat.mod_one]
  rw [e]
  rfl
theorem take_one {s : List Int} {k : Nat} (h : k < s.length) : s.take (k + 1) = s.take k ++ [s.getD k 0] := by
  rw [List.take_succ_eq_append_getElem h, List.getD_eq_getElem?_getD, List.getElem?_eq_getElem h]
  rfl
/-- the first k filled in -/
def fillT (s : List Int) (k : Nat) : List Value := tcv (s.take k) ++ List.replicate ((s.length - k) * 2) (Value.int .i64 0)
theorem fillT_zero (s : List Int) : fillT s 0 = List.replicate (s.length * 2) (Value.int .i64 0) := by simp [fillT, tcv]
theorem fillT_all (s : List Int) : fillT s s.length = tcv s := by simp [fillT]
theorem fillT_next {s : List Int} {k : Nat} (h : k < s.length) : ((fillT s k).set (k * 2) (.int .i64 (s.getD k 0))).set (k * 2 + 1) (.int .i64 (classS (s.getD k 0))) = fillT s (k + 1) := by
  have hl := tcv_len (s.take k)
  rw [List.length_take] at hl
  unfold fillT
  rw [show (s.length - k) * 2 = (s.length - (k + 1)) * 2 + 1 + 1 by omega, List.replicate_succ, List.replicate_succ, take_one h, tcv_app,
    List.set_append_right _ _ (by omega), show k * 2 - (tcv (s.take k)).length = 0 by omega, List.set_append_right _ _ (by omega), show k * 2 + 1 - (tcv (s.take k)).length = 1 by omega]
  simp [tcv]
def fillN (s : List Int) (k : Nat) : List Value := (s.take k).map (Value.int .i64) ++ List.replicate (s.length - k) (Value.int .i64 0)
theorem fillN_zero (s : List Int) : fillN s 0 = List.replicate s.length (Value.int .i64 0) := by simp [fillN]
theorem fillN_all (s : List Int) : fillN s s.length = s.map (Value.int .i64) := by simp [fillN]
theorem fillN_next {s : List Int} {k : Nat} (h : k < s.length) : (fillN s k).set k (.int .i64 (s.getD k 0)) = fillN s (k + 1) := by
  unfold fillN
  rw [show s.length - k = (s.length - (k + 1)) + 1 by omega, List.replicate_succ, take_one h, List.map_append, List.set_append_right _ _ (by rw [List.length_map, List.length_take]; omega), List.length_map, List.length_take, show k - min k s.length = 0 by omega]
  simp
theorem own_nums {g base n : Nat} {w : World} {s : List Int} (hb : Box 3 (s.map (Value.int .i64)) g w) (hl : s.length = n) (hg : base ≤ g) (hk : n ≤ 1000000) : Own .i64 3 base w (.slice (some ⟨g, 0, none⟩) n n) s := by
  subst hl
  refine ⟨by simp, .inr ⟨g, s.length, (s.map (Value.int .i64)).toArray, rfl, hg, hb, Nat.le_refl _, by unfold maxLen; omega, by simp, ?_⟩⟩
  rw [Nat.mul_one, List.take_of_length_le (by simp)]
theorem fillT_at {s : List Int} {k : Nat} (h : k < s.length) : (fillT s k)[k * 2]? = some (.int .i64 0) ∧ (fillT s k)[k * 2 + 1]? = some (.int .i64 0) := by
  have hl := tcv_len (s.take k)
  rw [List.length_take] at hl
  unfold fillT
  constructor
  · rw [List.getElem?_append_right (by omega), List.getElem?_replicate, if_pos (by omega)]
  · rw [List.getElem?_append_right (by omega), List.getElem?_replicate, if_pos (by omega)]
theorem fillN_at {s : List Int} {k : Nat} (h : k < s.length) : (fillN s k)[k]? = some (.int .i64 0) := by
  unfold fillN
  rw [List.getElem?_append_right (by rw [List.length_map, List.length_take]; omega), List.getElem?_replicate, if_pos (by rw [List.length_map, List.length_take]; omega)]

set_option maxHeartbeats 2000000 in
theorem classify9 (v : Value) (s : List Int) (w : World) (h : Sl .i64 w v s) (hm : s.length ≤ 1000000) :
    Calls Tryz.prog 96 #[v] w fun e w' => e = .returned (.slice (some ⟨w.heap.size, 0, none⟩) s.length s.length) ∧ Box 119 (tcv s) w.heap.size w' ∧ Below w.heap.size w w' := by
  obtain ⟨i0, hi0, hz0, hz1, hz2⟩ := info_parts Tryz.infoItem
  obtain ⟨a, cap, rfl, q1, m1, h1⟩ := h
  obtain ⟨n, hn⟩ : ∃ n, n = s.length := ⟨_, rfl⟩
  have hmk := make_items n (by omega) w
  have HNL := hid hn
  have H1 := hid h1
  rw [← hn] at q1 hm ⊢
  have HB0 : Hid (Box 119 (fillT s 0) w.heap.size (w.alloc (.cells (List.replicate (n * 2) (Value.int .i64 0)).toArray 119))) := hid (by rw [fillT_zero, ← hn]; exact Box.made _ _ _)
  have HL0 : Hid (Below w.heap.size w (w.alloc (.cells (List.replicate (n * 2) (Value.int .i64 0)).toArray 119))) := hid (by (repeat (first | exact Below.refl _ _ | exact below_drewN _ | refine Below.drew ?_ | refine Below.alloc ?_ (by simp) _ | refine Below.setCell ?_ (by simp) _ | refine below_drewN' ?_ _)))
  clear h1 hn m1
  generalize w.alloc (.cells (List.replicate (n * 2) (Value.int .i64 0)).toArray 119) = wb at hmk HB0 HL0
  go_enter Tryz.func96, Tryz.ntmps96
  go_wp2_with (fail)
  go_loopw [11] (fun iv wr => ∃ k : Nat, k ≤ n ∧ iv = .int .i64 k ∧ Hid (Box 119 (fillT s k) w.heap.size wr) ∧ Hid (Below w.heap.size w wr)) (fun iv _ => n - (intOf iv).toNat)
  case atStart => exact ⟨0, by omega, rfl, HB0.out, HL0.out⟩
  case round =>
    obtain ⟨k, hk, rfl, hbx, hbel⟩ := hrel
    by_cases hlt : k < n
    · rcases H1.out with hc | ⟨b1, o1, rfl, hb1, c1⟩
      · omega
      have hb1' := hb1 (by have := HNL.out; omega)
      have d1 := (hbel.out.cell (p := ⟨b1, o1 + k, none⟩) hb1').trans (c1 k (by have := HNL.out; omega))
      have hst := fillT_next (s := s) (k := k) (by have := HNL.out; omega)
      have HAT := hid (fillT_at (s := s) (k := k) (by have := HNL.out; omega))
      generalize s.getD k 0 = x at d1 hst
      have HST := hid hst
      clear hst c1 hb1
      go_wp2_with (go_at_call 93; refine (ucdClass x wr).mono ?_; rintro e w2 ⟨rfl, hb2⟩; have HBX2 := hid (hbx.out.below hb2 hbx.out.lt); have HBL2 := hid (hbel.out.trans (hb2.mono hbel.out.size)); have f1 := HBX2.out.ice (k * 2); have f2 := HBX2.out.ice (k * 2 + 1); have e1 := (HBX2.out.cell (k * 2)).trans HAT.out.1; have e2 := (HBX2.out.cell (k * 2 + 1)).trans HAT.out.2; clear hb2)
      go_roundw
      case rel => exact ⟨k + 1, by omega, by go_num, by rw [← HST.out]; exact (HBX2.out.set _ _).set _ _, by exact (HBL2.out.setCell (Nat.le_refl _) _).setCell (Nat.le_refl _) _⟩
      case measure => simp [intOf]; omega
    · obtain rfl : k = n := by omega
      go_wp2_with (fail)
      go_ret
      refine ⟨rfl, ?_, hbel.out⟩
      have := hbx.out
      rwa [HNL.out, fillT_all] at this

set_option maxHeartbeats 2000000 in
theorem numbers9 (s : List Int) (g n cap : Nat) (w : World) (h : Tagd s g 0 w) (hn : n = s.length) (hm : n ≤ 1000000) :
    Calls Tryz.prog 100 #[.slice (some ⟨g, 0, none⟩) n cap] w fun e w' => ∃ v, e = .returned v ∧ Own .i64 3 w.heap.size w' v s ∧ Below w.heap.size w w' := by
  obtain ⟨i0, hi0, hz0, hz1, hz2⟩ := info_parts Tryz.infoItem
  have hmk := make_nums n (by omega) w
  have HNL := hid hn
  have H1 := hid h
  have HB0 : Hid (Box 3 (fillN s 0) w.heap.size (w.alloc (.cells (List.replicate n (Value.int .i64 0)).toArray 3))) := hid (by rw [fillN_zero, ← hn]; exact Box.made _ _ _)
  have HL0 : Hid (Below w.heap.size w (w.alloc (.cells (List.replicate n (Value.int .i64 0)).toArray 3))) := hid (by (repeat (first | exact Below.refl _ _ | exact below_drewN _ | refine Below.drew ?_ | refine Below.alloc ?_ (by simp) _ | refine Below.setCell ?_ (by simp) _ | refine below_drewN' ?_ _)))
  clear h hn
  generalize w.alloc (.cells (List.replicate n (Value.int .i64 0)).toArray 3) = wb at hmk HB0 HL0
  go_enter Tryz.func100, Tryz.ntmps100
  go_wp2_with (fail)
  go_loopw [11] (fun iv wr => ∃ k : Nat, k ≤ n ∧ iv = .int .i64 k ∧ Hid (Box 3 (fillN s k) w.heap.size wr) ∧ Hid (Below w.heap.size w wr)) (fun iv _ => n - (intOf iv).toNat)
  case atStart => exact ⟨0, by omega, rfl, HB0.out, HL0.out⟩
  case round =>
    obtain ⟨k, hk, rfl, hbx, hbel⟩ := hrel
    by_cases hlt : k < n
    · obtain ⟨d1, d2⟩ := H1.out.2 k (by have := HNL.out; omega)
      rw [Nat.zero_add] at d1 d2
      have d1 := (hbel.out.cell (p := ⟨g, k * 2, none⟩) H1.out.1).trans d1
      have d2 := (hbel.out.cell (p := ⟨g, k * 2 + 1, none⟩) H1.out.1).trans d2
      have hst := fillN_next (s := s) (k := k) (by have := HNL.out; omega)
      have e1 := (hbx.out.cell k).trans (fillN_at (s := s) (k := k) (by have := HNL.out; omega))
      generalize classS (s.getD k 0) = c at d2
      generalize s.getD k 0 = x at d1 hst
      have HST := hid hst
      have hlt2 := hbx.out.lt
      have f1 := hbx.out.ice k
      clear hst
      go_wp2_with (fail)
      go_roundw
      case rel => exact ⟨k + 1, by omega, by go_num, by rw [← HST.out]; exact (hbx.out.set _ _).alloc _, by exact (hbel.out.setCell (Nat.le_refl _) _).alloc (hbel.out.setCell (Nat.le_refl _) _).size _⟩
      case measure => simp [intOf]; omega
    · obtain rfl : k = n := by omega
      go_wp2_with (fail)
      go_ret
      refine ⟨_, rfl, own_nums (by have := hbx.out; rwa [HNL.out, fillN_all] at this) HNL.out.symm (Nat.le_refl _) hm, hbel.out⟩
end Go.Proofs.YtidjjaginindoaaGreat

/-! Ord9c -/
namespace Go.Proofs.YtidjjaginindoaaGreat
open Go.RowKit

theorem ends_of {s : List Int} {k : Nat} (hk : k ≤ s.length) (h : k = 0 ∨ (0 < k ∧ classS (s.getD (k - 1) 0) = 0)) : s.take k = [] ∨ ∃ A z, s.take k = A ++ [z] ∧ classS z = 0 := by
  rcases h with rfl | ⟨h0, h1⟩
  · exact .inl rfl
  · obtain ⟨j, rfl⟩ : ∃ j, k = j + 1 := ⟨k - 1, by omega⟩
    exact .inr ⟨s.take j, s.getD j 0, take_one (by omega), h1⟩
theorem cntM_split (t : List Int) : ∃ R B, t = R ++ B ∧ R.length = cntM t ∧ (∀ c ∈ R, classS c ≠ 0) ∧ (B = [] ∨ ∃ z B', B = z :: B' ∧ classS z = 0) := by
  induction t with
  | nil => exact ⟨[], [], rfl, rfl, fun _ h => (by simp at h), .inl rfl⟩
  | cons c t ih =>
    obtain ⟨R, B, h1, h2, h3, h4⟩ := ih
    by_cases h : classS c = 0
    · refine ⟨[], c :: t, rfl, ?_, fun _ h => (by simp at h), .inr ⟨c, t, rfl, h⟩⟩
      simp [cntM, h]
    · refine ⟨c :: R, B, by rw [h1]; rfl, ?_, fun x hx => ?_, h4⟩
      · unfold cntM at h2 ⊢
        rw [List.takeWhile_cons, if_pos (by simpa using h), List.length_cons, List.length_cons, h2]
      · rcases List.mem_cons.1 hx with rfl | hx
        · exact h
        · exact h3 x hx
theorem put_next {s : List Int} {k : Nat} (hk : k < s.length) (hT : k = 0 ∨ (0 < k ∧ classS (s.getD (k - 1) 0) = 0)) : ∃ (m : Nat) (R B : List Int), m = cntM (s.drop k) ∧ s.drop k = R ++ B ∧ R.length = m ∧ k + m ≤ s.length ∧ (∀ c ∈ R, classS c ≠ 0) ∧
    putO classS (s.take k) ++ putO classS R ++ B = putO classS (s.take (k + m + 1)) ++ s.drop (k + m + 1) ∧ (s.length < k + m + 1 ∨ classS (s.getD (k + m) 0) = 0) := by
  obtain ⟨R, B, h1, h2, h3, h4⟩ := cntM_split (s.drop k)
  obtain ⟨m, hm⟩ : ∃ m, m = cntM (s.drop k) := ⟨_, rfl⟩
  rw [← hm] at h2
  have hl : (s.drop k).length = R.length + B.length := by rw [h1, List.length_append]
  rw [List.length_drop] at hl
  have hE := ends_of (s := s) (k := k) (by omega) hT
  have hTl : (s.take k).length = k := by rw [List.length_take]; omega
  have hs : s = s.take k ++ R ++ B := by rw [List.append_assoc, ← h1, List.take_append_drop]
  obtain ⟨T, hTT⟩ : ∃ T, T = s.take k := ⟨_, rfl⟩
  rw [← hTT] at hE hTl hs ⊢
  refine ⟨m, R, B, hm, h1, h2, by omega, h3, ?_, ?_⟩
  · clear h1 hm hTT hT
    rw [← put_run class_pos hE]
    rcases h4 with rfl | ⟨z, B', rfl, hz⟩
    · rw [List.append_nil] at hs ⊢
      simp only [List.length_nil] at hl
      rw [List.take_of_length_le (by omega), List.drop_eq_nil_of_le (by omega), List.append_nil, ← hs]
    · have e : s = (T ++ R ++ [z]) ++ B' := by rw [List.append_assoc]; exact hs
      have el : k + m + 1 = (T ++ R ++ [z]).length := by rw [List.length_append, List.length_append, hTl, h2]; rfl
      rw [el]
      subst e
      rw [List.take_left, List.drop_left, put_ends class_pos _ hz]
      simp
  · rcases h4 with rfl | ⟨z, B', rfl, hz⟩
    · simp only [List.length_nil] at hl
      left; omega
    · right
      have el : k + m = (T ++ R).length := by rw [List.length_append, hTl, h2]
      have e : s.getD (k + m) 0 = z := by
        rw [el, List.getD_eq_getElem?_getD]
        conv => lhs; rw [hs]
        simp
      rw [e]; exact hz
theorem cut_it (g n l h : Nat) (hl : l < n) (hh : l ≤ h) (hn : h ≤ n) (hi : Option Value) (hhi : (hi = none ∧ h = n) ∨ hi = some (.int .i64 (h : Int))) (w : World) :
    (Instr.sliceAt 114 (.slice (some ⟨g, 0, none⟩) n n) (some (.int .i64 (l : Int))) hi none).run Tryz.prog w = .ok (.slice (some ⟨g, l * 2, none⟩) (h - l) (n - l)) w ∧
      (Instr.slice 114 (.slice (some ⟨g, 0, none⟩) n n) (some (.int .i64 (l : Int))) hi none).run Tryz.prog w = .ok (.slice (some ⟨g, l * 2, none⟩) (h - l) (n - l)) w := by
  obtain ⟨i, hi', hz0, hz1, hz2⟩ := info_parts Tryz.infoItem
  have ht : Tryz.prog.underlying 114 = some (.slice 119) := by kernel_rfl
  have e1 : (0 : Int) ≤ (l : Int) ∧ (l : Int) ≤ (h : Int) := by omega
  have e2 : (0 : Int) ≤ (h : Int) ∧ (h : Int) ≤ (n : Int) := by omega
  have e3 : ¬ n = l := by omega
  rcases hhi with ⟨rfl, rfl⟩ | rfl <;>
    simp [Instr.sliceAt, Instr.slice, run_underlying ht, Instr.sliceBounds, Instr.sliceBound, asIntOf, sizeOf, typeInfo, hi', hz1, e1, e2, e3, hh, hn, Addr.add]
  all_goals (rcases Nat.eq_zero_or_pos l with rfl | h0)
  all_goals first | (simp; done) | (intro hz; omega)

set_option maxHeartbeats 2000000 in
theorem orderPut : OPutOk := fun v s w h hm => by
  obtain ⟨i0, hi0, hz0, hz1, hz2⟩ := info_parts Tryz.infoItem
  obtain ⟨n, hn⟩ : ∃ n, n = s.length := ⟨_, rfl⟩
  have HCL := hid (classify9 v s w h hm)
  have HNL := hid hn
  rw [← hn] at hm HCL
  have hgg : w.heap.size ≤ w.heap.size := Nat.le_refl _
  clear h hn
  go_enter Tryz.func78, Tryz.ntmps78
  go_wp2_with (go_at_call 96; refine HCL.out.mono ?_; rintro e w1 ⟨rfl, hb1, hl1⟩; have HB1 := hid hb1; have HL1 := hid hl1; clear hb1 hl1)
  obtain ⟨g, hg⟩ : ∃ g, g = w.heap.size := ⟨_, rfl⟩
  rw [← hg] at HB1 ⊢
  have HG := hid hg
  clear hg hgg HCL
  go_loopw [4] (fun kv wr => ∃ k : Nat, k ≤ n + 1 ∧ kv = .int .i64 k ∧ Hid (k = 0 ∨ n < k ∨ (0 < k ∧ classS (s.getD (k - 1) 0) = 0)) ∧ Hid (Box 119 (tcv (putO classS (s.take k) ++ s.drop k)) g wr) ∧ Hid (Below w.heap.size w wr)) (fun kv _ => n + 1 - (intOf kv).toNat)
  case atStart => exact ⟨0, by omega, rfl, .inl rfl, HB1.out, HL1.out⟩
  case round =>
    obtain ⟨k, hk, rfl, hends, hbx, hbel⟩ := hrel
    by_cases hlt : k < n
    · obtain ⟨m, R, B, hm1, hRB, hR, hkm, hRz, hnew, hz⟩ := put_next (s := s) (k := k) (by have := HNL.out; omega) (by have := hends.out; omega)
      have hkm' : k + m ≤ n := by have := HNL.out; omega
      obtain ⟨e, he⟩ : ∃ e, e = k + m := ⟨_, rfl⟩
      have w1 : (k : Int) + (m : Int) = (e : Int) := by omega
      have hek : e - k = m := by omega
      have r1 := fun w => (cut_it g n k n hlt (by omega) (Nat.le_refl _) none (.inl ⟨rfl, rfl⟩) w).1
      have r2 := fun w => (cut_it g n k n hlt (by omega) (Nat.le_refl _) none (.inl ⟨rfl, rfl⟩) w).2
      have r3 := fun w => (cut_it g n k e hlt (by omega) (by omega) (some (.int .i64 (e : Int))) (.inr rfl) w).1
      have r4 := fun w => (cut_it g n k e hlt (by omega) (by omega) (some (.int .i64 (e : Int))) (.inr rfl) w).2
      rw [hek] at r3 r4
      have hA : (putO classS (s.take k)).length = k := by rw [putO_len, List.length_take]; have := HNL.out; omega
      have HT : Hid (Tagd (s.drop k) g (k * 2) wr) := hid (by
        have := Tagd.of (A := putO classS (s.take k)) (s := s.drop k) (B := []) (g := g) (w := wr) (by rw [List.append_nil]; exact hbx.out)
        rwa [hA] at this)
      obtain ⟨q, hq⟩ : ∃ q, q = n - k := ⟨_, rfl⟩
      rw [← hq] at r1 r2 r3 r4
      have HCM := hid (countMarks (s.drop k) g (k * 2) q q wr HT.out (by rw [List.length_drop, ← HNL.out]; exact hq) (by omega))
      rw [← hm1] at HCM
      have HBX : Hid (Box 119 (tcv (putO classS (s.take k) ++ R ++ B)) g wr) := hid (by rw [List.append_assoc, ← hRB]; exact hbx.out)
      have HR := hid (show R.length = m ∧ (∀ c ∈ R, classS c ≠ 0) ∧ (putO classS (s.take k)).length = k from ⟨hR, hRz, hA⟩)
      have HNEW := hid hnew
      have HZ := hid (show e = k + m ∧ (s.length < k + m + 1 ∨ classS (s.getD (k + m) 0) = 0) from ⟨he, hz⟩)
      clear hm1 hRB hR hkm hRz hnew hz hA he hek hq hends hbx
      go_wp2_with (first
        | (have _u := HBX7; clear _u; go_at_call 98; refine (sortRun (putO classS (s.take k)) R B g (k * 2) m q w7 HBX7.out HR.out.1 (by omega) (by rw [HR.out.2.2]) HR.out.2.1).mono ?_; rintro e8 w8 ⟨rfl, hb8, hg8⟩; have HB8 := hid hb8; have HL8 : Hid (Below w.heap.size w w8) := hid (HBL7.out.grown hg8 HBL7.out.size (fun j hj => by injection hj with hj; have := HG.out; omega)); clear hb8 hg8)
        | (go_at_call 97; refine HCM.out.mono ?_; rintro e7 w7 ⟨rfl, hb7⟩; have HBX7 := hid (HBX.out.below hb7 HBX.out.lt); have HBL7 := hid (hbel.out.trans (hb7.mono hbel.out.size)); clear hb7))
      go_roundw
      case rel => exact ⟨e + 1, by omega, by go_num, by have := HZ.out; have := HNL.out; show e + 1 = 0 ∨ n < e + 1 ∨ (0 < e + 1 ∧ classS (s.getD (e + 1 - 1) 0) = 0); rw [Nat.add_sub_cancel, HZ.out.1]; omega, by rw [HZ.out.1, ← HNEW.out]; exact HB8.out, HL8.out⟩
      case measure => simp [intOf]; omega
    · have HP : Hid (Box 119 (tcv (putO classS s)) g wr) := hid (by
        have := hbx.out
        rwa [List.take_of_length_le (by have := HNL.out; omega), List.drop_eq_nil_of_le (by have := HNL.out; omega), List.append_nil] at this)
      have HT : Hid (Tagd (putO classS s) g 0 wr) := hid (by
        have := Tagd.of (A := []) (s := putO classS s) (B := []) (g := g) (w := wr) (by rw [List.append_nil]; exact HP.out)
        exact this)
      go_wp2_with (go_at_call 100; refine (numbers9 (putO classS s) g n n wr HT.out (by rw [putO_len]; exact HNL.out) hm).mono ?_; rintro e w9 ⟨v9, rfl, ho9, hb9⟩; have HO9 := hid (ho9.mono hbel.out.size); have HB9 := hid (hbel.out.trans (hb9.mono hbel.out.size)); clear ho9 hb9)
      go_ret
      exact ⟨_, rfl, HO9.out, HB9.out⟩

end Go.Proofs.YtidjjaginindoaaGreat
