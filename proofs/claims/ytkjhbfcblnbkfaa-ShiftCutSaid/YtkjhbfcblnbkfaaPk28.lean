/- Several texts in one: LawPlain17. -/
import Derived.Test.YtkjhbfcblnbkfaaPk17
import Derived.Test.YtkjhbfcblnbkfaaPk15
import Derived.Test.YtkjhbfcblnbkfaaPk26
/-! LawPlain17 -/
namespace Go.Proofs.Ytkjhbfcblnbkfaa
open Go.RowKit

theorem segB_len (x : Int × Int × Int) : (segB x).length ≤ 6 := by unfold segB; repeat' split
                                                                   all_goals simp
theorem segT_len (x : Int × Int × Int) : (segT x).length ≤ 1 := by unfold segT; repeat' split
                                                                   all_goals simp
theorem segs_len : ∀ l : List (Int × Int × Int), (l.flatMap segB).length ≤ 6 * l.length ∧ (l.flatMap segT).length ≤ l.length
  | [] => by simp
  | x :: l => by
    have h1 := segs_len l
    have h2 := segB_len x
    have h3 := segT_len x
    rw [List.flatMap_cons, List.flatMap_cons, List.length_append, List.length_append, List.length_cons]
    omega
theorem segB_u8 {x : Int × Int × Int} (h : SegOk x) : U8 (segB x) := by
  obtain ⟨h1, h2, h3⟩ := h
  unfold segB
  intro y hy
  repeat' split at hy
  all_goals (simp only [List.mem_cons, List.not_mem_nil, or_false] at hy; omega)
theorem segs_u8 : ∀ l : List (Int × Int × Int), (∀ x ∈ l, SegOk x) → U8 (l.flatMap segB)
  | [], _ => U8.nil
  | x :: l, h => by
    rw [List.flatMap_cons]
    exact (segB_u8 (h x (by simp))).append (segs_u8 l fun y hy => h y (List.mem_cons_of_mem _ hy))
def ctl4 (M : Nat) : Int := [8, 10, 12, 13].getD M 0
theorem ctl4_ok {M : Nat} (h : M < 4) : ctl4 M = 8 ∨ ctl4 M = 10 ∨ ctl4 M = 12 ∨ ctl4 M = 13 := by
  have : ∀ m : Fin 4, ctl4 m = 8 ∨ ctl4 m = 10 ∨ ctl4 m = 12 ∨ ctl4 m = 13 := by decide
  exact this ⟨M, h⟩
theorem ctl4_cell {w : World} {e : TypeId} {M : Nat} (h : M < 4) : (w.alloc (.cells #[.int .u8 8, .int .u8 10, .int .u8 12, .int .u8 13] e)).cell? ⟨w.heap.size, M, none⟩ = some (.int .u8 (ctl4 M)) := by
  have hb := (Box.made w e [.int .u8 8, .int .u8 10, .int .u8 12, .int .u8 13]).cell M
  refine hb.trans ?_
  rcases (show M = 0 ∨ M = 1 ∨ M = 2 ∨ M = 3 by omega) with rfl | rfl | rfl | rfl <;> rfl

set_option maxRecDepth 10000 in
set_option maxHeartbeats 4000000 in
theorem walkPlain17 (HT : ShTokOk) (HE : ShEscOk) (v : Value) (l : List Int) (w : World) (h : Sl .i64 w v l) :
    Calls Try.prog 5 #[v] w fun e w' => e = .returned (.bool true) ∧ Below w.heap.size w w' := by
  obtain ⟨iT, hi0, hz0, hz1, hz2⟩ := info_parts Try.infoTk
  obtain ⟨zT, hzv⟩ : ∃ z : Value, z = .agg #[.int .i64 0, .int .i64 0] := ⟨_, rfl⟩
  rw [← hzv] at hz0
  have HS_l := hid h
  have ml_l := h.len
  obtain ⟨a_l, c_l, hv_l⟩ := h.form
  obtain ⟨ns, hn_l⟩ : ∃ n, n = l.length := ⟨_, rfl⟩
  rw [← hn_l] at hv_l ml_l
  subst hv_l
  have HN_l := hid hn_l
  clear hn_l h
  have HW := hid (fun w => lawWakes17 HT HE w)
  have HB0 := hid (Below.refl w.heap.size w)
  by_cases hl_ns : ns ≤ 60
  · have HTH := hid HT
    clear HT HE
    go_enter Try.func5, Try.ntmps5
    go_wp2_with (fail)
    go_loopw [3, 4, 5] (fun bv tw iv wr => ∃ (k : Nat) (xs : List (Int × Int × Int)), k ≤ ns ∧ iv = .int .i64 k ∧ Hid (xs.length = k ∧ ∀ x ∈ xs, SegOk x) ∧ Hid (Own .u8 5 w.heap.size wr bv (xs.flatMap segB)) ∧ Hid (OwnT 30 w.heap.size wr tw (xs.flatMap segT)) ∧ Hid (Below w.heap.size w wr)) (fun _ _ iv _ => ns - (intOf iv).toNat)
    case atStart => exact ⟨0, [], by omega, rfl, ⟨rfl, fun x hx => by cases hx⟩, Own.nil _ _ _ _, OwnT.nil _ _ _, Below.refl _ _⟩
    case round =>
      obtain ⟨k, xs, hk, rfl, hxs, hob, hot, hbel⟩ := hrel
      by_cases hlt : k < ns
      · obtain ⟨a', c', hv', -, -, hh⟩ := HS_l.out
        injection hv' with e1 e2 e3
        subst e1 e3
        rcases hh with hh | ⟨b1, o1, rfl, hbq, cq⟩
        · have := HS_l.out.cap_ge18
          have := HN_l.out
          omega
        have hbq := hbq (by omega)
        have d1 := (hbel.out.cell (p := ⟨b1, o1 + k, none⟩) hbq).trans (cq k (by have := HN_l.out; omega))
        clear cq e2
        generalize l.getD k 0 = x at d1
        obtain ⟨N, hN, hN0⟩ := ixn x 94 (by decide) (by decide)
        have hkb := ixr' x 5 (by decide)
        obtain ⟨kd, hkd⟩ : ∃ kd, kd = (IntKind.u64.wrap x).tmod 5 := ⟨_, rfl⟩
        rw [← hkd] at hkb
        have HKD := hid hkd.symm
        obtain ⟨M, hM, hM0⟩ := ixn ((IntKind.u64.wrap x).tdiv 5) 4 (by decide) (by decide)
        have HLN := hid (show (xs.flatMap segB).length ≤ 360 ∧ (xs.flatMap segT).length ≤ 60 from by have h1 := segs_len xs; have := hxs.out.1; omega)
        have HSK := hid (show ∀ y ∈ xs ++ [(kd, 33 + (N : Int), ctl4 M)], SegOk y from fun y hy => by
          rcases List.mem_append.1 hy with hy | hy
          · exact hxs.out.2 y hy
          · simp only [List.mem_singleton] at hy
            subst hy
            exact ⟨by show (33 : Int) ≤ 33 + (N : Int); omega, by show 33 + (N : Int) ≤ 126; omega, ctl4_ok (by omega)⟩)
        obtain ⟨BB, hBB⟩ : ∃ B, B = xs.flatMap segB := ⟨_, rfl⟩
        obtain ⟨TT, hTT⟩ : ∃ B, B = xs.flatMap segT := ⟨_, rfl⟩
        have HBB := hid hBB
        have HTT := hid hTT
        rw [← hBB] at hob HLN
        rw [← hTT] at hot HLN
        clear hkd hBB hTT
        rcases (show kd = 0 ∨ kd = 1 ∨ kd = 2 ∨ kd = 3 ∨ kd = 4 by omega) with hkk | hkk | hkk | hkk | hkk
        · have HSB := hid (show segB (kd, 33 + (N : Int), ctl4 M) = [32] from by unfold segB; simp [hkk])
          have HST := hid (show segT (kd, 33 + (N : Int), ctl4 M) = [((0 : Int), (32 : Int))] from by unfold segT; simp [hkk])
          have e0 : ((IntKind.u64.wrap x).tmod 5 == 0) = true := by rw [HKD.out]; simp; omega
          have e1 : ((IntKind.u64.wrap x).tmod 5 == 1) = false := by rw [HKD.out]; simp; omega
          have e2 : ((IntKind.u64.wrap x).tmod 5 == 2) = false := by rw [HKD.out]; simp; omega
          have e3 : ((IntKind.u64.wrap x).tmod 5 == 3) = false := by rw [HKD.out]; simp; omega
          clear hkk
          go_wp2_with (first
            | (have _u := HB5; clear _u; at_builtin; go_loud (refine wpList_appT _ rfl _ _ 32 rfl w.heap.size 30 16 iT zT Try.underlying32 hi0 hz0 hz1 hz2 (by rw [hzv]; rfl) _ TT rfl (HT5.out.alloc _) _ ((0 : Int), (32 : Int)) rfl (by have hbx := Box.made w5 30 [.int .i64 (((0 : Int), (32 : Int))).1, .int .i64 (((0 : Int), (32 : Int))).2]; exact ⟨hbx.cell 0, hbx.cell 1⟩) (by have := HLN.out; unfold maxLen; omega) (by have := HLN.out; omega) (by have := HB5.out.size; simp; omega) ?_); intro g6 c6 w6 ho6 hb6 hg6; have HT6 := hid ho6; have HO6 := hid ((HT5.out.alloc _).leaves (HO5.out.alloc _) (by decide) hg6); have HB6 := hid ((HB5.out.alloc HB5.out.size _).trans hb6); clear ho6 hb6 hg6)
            | (at_builtin; go_loud (refine wpList_app _ rfl _ _ 25 rfl .u8 w.heap.size 5 1 Try.underlying25 Try.infoU8 _ BB [32] rfl (hob.out.alloc _) _ rfl (lit_sl (by first | simp | rfl) rfl rfl (by simp)) (by have := HLN.out.1; unfold maxLen; simp only [List.length_cons, List.length_nil]; omega) (by have := HLN.out.1; simp only [List.length_cons, List.length_nil]; omega) (by have := hbel.out.size; simp; omega) ?_); intro v5 w5 ho5 hg5 hb5 hn5; have HO5 := hid ho5; have HT5 := hid ((hot.out.alloc _).apart (hob.out.alloc _) (by decide) hg5); have HB5 := hid ((hbel.out.alloc hbel.out.size _).trans hb5); clear ho5 hg5 hb5 hn5))
          go_roundw
          case rel => exact ⟨k + 1, xs ++ [(kd, 33 + (N : Int), ctl4 M)], by omega, by go_num, ⟨by rw [List.length_append]; have := hxs.out.1; simp; omega, HSK.out⟩, by rw [segB_snoc, HSB.out, ← HBB.out]; exact HO6.out, by rw [segT_snoc, HST.out, ← HTT.out]; exact HT6.out, HB6.out⟩
          case measure => simp [intOf] <;> omega
        · have HSB := hid (show segB (kd, 33 + (N : Int), ctl4 M) = [ctl4 M] from by unfold segB; simp [hkk])
          have HST := hid (show segT (kd, 33 + (N : Int), ctl4 M) = [((0 : Int), ctl4 M)] from by unfold segT; simp [hkk])
          have e0 : ((IntKind.u64.wrap x).tmod 5 == 0) = false := by rw [HKD.out]; simp; omega
          have e1 : ((IntKind.u64.wrap x).tmod 5 == 1) = true := by rw [HKD.out]; simp; omega
          have e2 : ((IntKind.u64.wrap x).tmod 5 == 2) = false := by rw [HKD.out]; simp; omega
          have e3 : ((IntKind.u64.wrap x).tmod 5 == 3) = false := by rw [HKD.out]; simp; omega
          have h64 : wrap64 (ctl4 M) = ctl4 M := by have := ctl4_ok (M := M) (by omega); unfold wrap64; omega
          have x9 := ctl4_cell (w := wr) (e := 5) (M := M) (by omega)
          have d2 := (((Below.refl wr.heap.size wr).alloc (Nat.le_refl _) (.cells #[.int .u8 8, .int .u8 10, .int .u8 12, .int .u8 13] 5)).cell (World.block_lt_of_cell? wr _ d1)).trans d1
          clear hkk
          go_wp2_with (first
            | (have _u := HB5; clear _u; at_builtin; go_loud (refine wpList_appT _ rfl _ _ 32 rfl w.heap.size 30 16 iT zT Try.underlying32 hi0 hz0 hz1 hz2 (by rw [hzv]; rfl) _ TT rfl (HT5.out.alloc _) _ ((0 : Int), ctl4 M) rfl (by have hbx := Box.made w5 30 [.int .i64 (((0 : Int), ctl4 M)).1, .int .i64 (((0 : Int), ctl4 M)).2]; exact ⟨hbx.cell 0, hbx.cell 1⟩) (by have := HLN.out; unfold maxLen; omega) (by have := HLN.out; omega) (by have := HB5.out.size; simp; omega) ?_); intro g6 c6 w6 ho6 hb6 hg6; have HT6 := hid ho6; have HO6 := hid ((HT5.out.alloc _).leaves (HO5.out.alloc _) (by decide) hg6); have HB6 := hid ((HB5.out.alloc HB5.out.size _).trans hb6); clear ho6 hb6 hg6)
            | (at_builtin; go_loud (refine wpList_app _ rfl _ _ 25 rfl .u8 w.heap.size 5 1 Try.underlying25 Try.infoU8 _ BB [ctl4 M] rfl ((hob.out.alloc _).alloc _) _ rfl (lit_sl (by first | simp | rfl) rfl rfl (by simp)) (by have := HLN.out.1; unfold maxLen; simp only [List.length_cons, List.length_nil]; omega) (by have := HLN.out.1; simp only [List.length_cons, List.length_nil]; omega) (by have := hbel.out.size; simp; omega) ?_); intro v5 w5 ho5 hg5 hb5 hn5; have HO5 := hid ho5; have HT5 := hid (((hot.out.alloc _).alloc _).apart ((hob.out.alloc _).alloc _) (by decide) hg5); have HB5 := hid (((hbel.out.alloc hbel.out.size _).alloc (by have := hbel.out.size; simp; omega) _).trans hb5); clear ho5 hg5 hb5 hn5))
          go_roundw
          case rel => exact ⟨k + 1, xs ++ [(kd, 33 + (N : Int), ctl4 M)], by omega, by go_num, ⟨by rw [List.length_append]; have := hxs.out.1; simp; omega, HSK.out⟩, by rw [segB_snoc, HSB.out, ← HBB.out]; exact HO6.out, by rw [segT_snoc, HST.out, ← HTT.out]; exact HT6.out, HB6.out⟩
          case measure => simp [intOf] <;> omega
        · have HSB := hid (show segB (kd, 33 + (N : Int), ctl4 M) = [27, 33, 69, 27, 34, 72] from by unfold segB; simp [hkk])
          have HST := hid (show segT (kd, 33 + (N : Int), ctl4 M) = [] from by unfold segT; simp [hkk])
          have e0 : ((IntKind.u64.wrap x).tmod 5 == 0) = false := by rw [HKD.out]; simp; omega
          have e1 : ((IntKind.u64.wrap x).tmod 5 == 1) = false := by rw [HKD.out]; simp; omega
          have e2 : ((IntKind.u64.wrap x).tmod 5 == 2) = true := by rw [HKD.out]; simp; omega
          have e3 : ((IntKind.u64.wrap x).tmod 5 == 3) = false := by rw [HKD.out]; simp; omega
          clear hkk
          go_wp2_with (at_builtin; go_loud (refine wpList_app _ rfl _ _ 25 rfl .u8 w.heap.size 5 1 Try.underlying25 Try.infoU8 _ BB [27, 33, 69, 27, 34, 72] rfl (hob.out.alloc _) _ rfl (lit_sl (by first | simp | rfl) rfl rfl (by simp)) (by have := HLN.out.1; unfold maxLen; simp only [List.length_cons, List.length_nil]; omega) (by have := HLN.out.1; simp only [List.length_cons, List.length_nil]; omega) (by have := hbel.out.size; simp; omega) ?_); intro v5 w5 ho5 hg5 hb5 hn5; have HO5 := hid ho5; have HT5 := hid ((hot.out.alloc _).apart (hob.out.alloc _) (by decide) hg5); have HB5 := hid ((hbel.out.alloc hbel.out.size _).trans hb5); clear ho5 hg5 hb5 hn5)
          go_roundw
          case rel => exact ⟨k + 1, xs ++ [(kd, 33 + (N : Int), ctl4 M)], by omega, by go_num, ⟨by rw [List.length_append]; have := hxs.out.1; simp; omega, HSK.out⟩, by rw [segB_snoc, HSB.out, ← HBB.out]; exact HO5.out, by rw [segT_snoc, HST.out, ← HTT.out, List.append_nil]; exact HT5.out, HB5.out⟩
          case measure => simp [intOf] <;> omega
        · have HSB := hid (show segB (kd, 33 + (N : Int), ctl4 M) = [33 + (N : Int)] from by unfold segB; simp [hkk])
          have HST := hid (show segT (kd, 33 + (N : Int), ctl4 M) = [((102 : Int), 33 + (N : Int))] from by unfold segT; simp [hkk])
          have e0 : ((IntKind.u64.wrap x).tmod 5 == 0) = false := by rw [HKD.out]; simp; omega
          have e1 : ((IntKind.u64.wrap x).tmod 5 == 1) = false := by rw [HKD.out]; simp; omega
          have e2 : ((IntKind.u64.wrap x).tmod 5 == 2) = false := by rw [HKD.out]; simp; omega
          have e3 : ((IntKind.u64.wrap x).tmod 5 == 3) = true := by rw [HKD.out]; simp; omega
          have h8 : IntKind.u8.wrap (33 + (N : Int)) = 33 + (N : Int) := by simp only [IntKind.wrap, IntKind.bits, IntKind.signed]; simp; omega
          clear hkk
          go_wp2_with (first
            | (have _u := HB5; clear _u; at_builtin; go_loud (refine wpList_appT _ rfl _ _ 32 rfl w.heap.size 30 16 iT zT Try.underlying32 hi0 hz0 hz1 hz2 (by rw [hzv]; rfl) _ TT rfl (HT5.out.alloc _) _ ((102 : Int), 33 + (N : Int)) rfl (by have hbx := Box.made w5 30 [.int .i64 (((102 : Int), 33 + (N : Int))).1, .int .i64 (((102 : Int), 33 + (N : Int))).2]; exact ⟨hbx.cell 0, hbx.cell 1⟩) (by have := HLN.out; unfold maxLen; omega) (by have := HLN.out; omega) (by have := HB5.out.size; simp; omega) ?_); intro g6 c6 w6 ho6 hb6 hg6; have HT6 := hid ho6; have HO6 := hid ((HT5.out.alloc _).leaves (HO5.out.alloc _) (by decide) hg6); have HB6 := hid ((HB5.out.alloc HB5.out.size _).trans hb6); clear ho6 hb6 hg6)
            | (at_builtin; go_loud (refine wpList_app _ rfl _ _ 25 rfl .u8 w.heap.size 5 1 Try.underlying25 Try.infoU8 _ BB [33 + (N : Int)] rfl (hob.out.alloc _) _ rfl (lit_sl (by first | simp | rfl) rfl rfl (by simp)) (by have := HLN.out.1; unfold maxLen; simp only [List.length_cons, List.length_nil]; omega) (by have := HLN.out.1; simp only [List.length_cons, List.length_nil]; omega) (by have := hbel.out.size; simp; omega) ?_); intro v5 w5 ho5 hg5 hb5 hn5; have HO5 := hid ho5; have HT5 := hid ((hot.out.alloc _).apart (hob.out.alloc _) (by decide) hg5); have HB5 := hid ((hbel.out.alloc hbel.out.size _).trans hb5); clear ho5 hg5 hb5 hn5))
          go_roundw
          case rel => exact ⟨k + 1, xs ++ [(kd, 33 + (N : Int), ctl4 M)], by omega, by go_num, ⟨by rw [List.length_append]; have := hxs.out.1; simp; omega, HSK.out⟩, by rw [segB_snoc, HSB.out, ← HBB.out]; exact HO6.out, by rw [segT_snoc, HST.out, ← HTT.out]; exact HT6.out, HB6.out⟩
          case measure => simp [intOf] <;> omega
        · have HSB := hid (show segB (kd, 33 + (N : Int), ctl4 M) = [33 + (N : Int) + 128] from by unfold segB; simp [hkk])
          have HST := hid (show segT (kd, 33 + (N : Int), ctl4 M) = [((103 : Int), 33 + (N : Int))] from by unfold segT; simp [hkk])
          have e0 : ((IntKind.u64.wrap x).tmod 5 == 0) = false := by rw [HKD.out]; simp; omega
          have e1 : ((IntKind.u64.wrap x).tmod 5 == 1) = false := by rw [HKD.out]; simp; omega
          have e2 : ((IntKind.u64.wrap x).tmod 5 == 2) = false := by rw [HKD.out]; simp; omega
          have e3 : ((IntKind.u64.wrap x).tmod 5 == 3) = false := by rw [HKD.out]; simp; omega
          have h8 : IntKind.u8.wrap (33 + (N : Int) + 128) = 33 + (N : Int) + 128 := by simp only [IntKind.wrap, IntKind.bits, IntKind.signed]; simp; omega
          clear hkk
          go_wp2_with (first
            | (have _u := HB5; clear _u; at_builtin; go_loud (refine wpList_appT _ rfl _ _ 32 rfl w.heap.size 30 16 iT zT Try.underlying32 hi0 hz0 hz1 hz2 (by rw [hzv]; rfl) _ TT rfl (HT5.out.alloc _) _ ((103 : Int), 33 + (N : Int)) rfl (by have hbx := Box.made w5 30 [.int .i64 (((103 : Int), 33 + (N : Int))).1, .int .i64 (((103 : Int), 33 + (N : Int))).2]; exact ⟨hbx.cell 0, hbx.cell 1⟩) (by have := HLN.out; unfold maxLen; omega) (by have := HLN.out; omega) (by have := HB5.out.size; simp; omega) ?_); intro g6 c6 w6 ho6 hb6 hg6; have HT6 := hid ho6; have HO6 := hid ((HT5.out.alloc _).leaves (HO5.out.alloc _) (by decide) hg6); have HB6 := hid ((HB5.out.alloc HB5.out.size _).trans hb6); clear ho6 hb6 hg6)
            | (at_builtin; go_loud (refine wpList_app _ rfl _ _ 25 rfl .u8 w.heap.size 5 1 Try.underlying25 Try.infoU8 _ BB [33 + (N : Int) + 128] rfl (hob.out.alloc _) _ rfl (lit_sl (by first | simp | rfl) rfl rfl (by simp)) (by have := HLN.out.1; unfold maxLen; simp only [List.length_cons, List.length_nil]; omega) (by have := HLN.out.1; simp only [List.length_cons, List.length_nil]; omega) (by have := hbel.out.size; simp; omega) ?_); intro v5 w5 ho5 hg5 hb5 hn5; have HO5 := hid ho5; have HT5 := hid ((hot.out.alloc _).apart (hob.out.alloc _) (by decide) hg5); have HB5 := hid ((hbel.out.alloc hbel.out.size _).trans hb5); clear ho5 hg5 hb5 hn5))
          go_roundw
          case rel => exact ⟨k + 1, xs ++ [(kd, 33 + (N : Int), ctl4 M)], by omega, by go_num, ⟨by rw [List.length_append]; have := hxs.out.1; simp; omega, HSK.out⟩, by rw [segB_snoc, HSB.out, ← HBB.out]; exact HO6.out, by rw [segT_snoc, HST.out, ← HTT.out]; exact HT6.out, HB6.out⟩
          case measure => simp [intOf] <;> omega
      · obtain rfl : k = ns := by omega
        have HLN := hid (show (xs.flatMap segB).length ≤ 360 from by have := (segs_len xs).1; have := hxs.out.1; omega)
        have GT := hid (fun v w h => HTH.out v (xs.flatMap segB) w h (segs_u8 xs hxs.out.2) (by have := HLN.out; omega))
        rw [tok_segs hxs.out.2] at GT
        simp only [tkL, tkAt, tkE] at GT
        have HOT := hid hot.out.tk
        have HOB := hid hob.out.sl
        generalize xs.flatMap segT = TT at GT HOT
        clear hob hot hxs
        go_wp2_with (first
          | (have _u := HB3; clear _u; go_at_call 10; refine (HW.out _).mono ?_; rintro e w4 ⟨rfl, hb4⟩; have HB4 := hid (HB3.out.trans (hb4.mono HB3.out.size)); clear hb4)
          | (have _u := HB2; clear _u; go_at_call 11; refine (keepTokens _ _ TT TT _ HK2.out HOT2.out).mono ?_; rw [eqT_self]; rintro e w3 ⟨rfl, n3, hw3⟩; have HB3 : Hid (Below w.heap.size w w3) := hid (by rw [hw3]; exact below_drewN' HB2.out n3); clear hw3)
          | (go_at_call 9; with_reducible refine (GT.out _ _ HOB.out).mono ?_; rintro e w2 ⟨v2, rfl, ht2, hb2⟩; have HK2 := hid ht2; have HOT2 := hid (HOT.out.below hb2); have HB2 := hid (hbel.out.trans (hb2.mono hbel.out.size)); clear ht2 hb2))
        go_ret
        exact ⟨rfl, HB4.out⟩
  · have hf_ns : 60 < ns := by omega
    clear hl_ns HT HE
    go_enter Try.func5, Try.ntmps5
    go_wp2
    go_ret
    exact ⟨rfl, Below.refl _ _⟩
end Go.Proofs.Ytkjhbfcblnbkfaa
