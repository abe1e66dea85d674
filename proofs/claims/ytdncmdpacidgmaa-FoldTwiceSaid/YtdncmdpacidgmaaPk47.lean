/- Several texts in one: Ord9c. -/
import Derived.Test.YtdncmdpacidgmaaPk46
/-! Ord9c -/
namespace Go.Proofs.Ytdncmdpacidgmaa
open Go.RowKit

theorem ends_of {s : List Int} {k : Nat} (hk : k ≤ s.length) (h : k = 0 ∨ (0 < k ∧ classS (s.getD (k - 1) 0) = 0)) : s.take k = [] ∨ ∃ A z, s.take k = A ++ [z] ∧ classS z = 0 := by
  rcases h with rfl | ⟨h0, h1⟩
  · exact .inl rfl
  · obtain ⟨j, rfl⟩ : ∃ j, k = j + 1 := ⟨k - 1, by omega⟩
    exact .inr ⟨s.take j, s.getD j 0, take_one (by omega), h1⟩
theorem cntM_split (t : List Int) : ∃ R B, t = R ++ B ∧ R.length = cntM t ∧ (∀ c ∈ R, classS c ≠ 0) ∧ (B = [] ∨ ∃ z B', B = z :: B' ∧ classS z = 0) := by
  induction t with
  | nil => exact ⟨[], [], rfl, rfl, fun _ h => (by simp at h), .inl rfl⟩
  | cons c t ih =>
    obtain ⟨R, B, h1, h2, h3, h4⟩ := ih
    by_cases h : classS c = 0
    · refine ⟨[], c :: t, rfl, ?_, fun _ h => (by simp at h), .inr ⟨c, t, rfl, h⟩⟩
      simp [cntM, h]
    · refine ⟨c :: R, B, by rw [h1]; rfl, ?_, fun x hx => ?_, h4⟩
      · unfold cntM at h2 ⊢
        rw [List.takeWhile_cons, if_pos (by simpa using h), List.length_cons, List.length_cons, h2]
      · rcases List.mem_cons.1 hx with rfl | hx
        · exact h
        · exact h3 x hx
theorem put_next {s : List Int} {k : Nat} (hk : k < s.length) (hT : k = 0 ∨ (0 < k ∧ classS (s.getD (k - 1) 0) = 0)) : ∃ (m : Nat) (R B : List Int), m = cntM (s.drop k) ∧ s.drop k = R ++ B ∧ R.length = m ∧ k + m ≤ s.length ∧ (∀ c ∈ R, classS c ≠ 0) ∧
    putG classS (s.take k) ++ putG classS R ++ B = putG classS (s.take (k + m + 1)) ++ s.drop (k + m + 1) ∧ (s.length < k + m + 1 ∨ classS (s.getD (k + m) 0) = 0) := by
  obtain ⟨R, B, h1, h2, h3, h4⟩ := cntM_split (s.drop k)
  obtain ⟨m, hm⟩ : ∃ m, m = cntM (s.drop k) := ⟨_, rfl⟩
  rw [← hm] at h2
  have hl : (s.drop k).length = R.length + B.length := by rw [h1, List.length_append]
  rw [List.length_drop] at hl
  have hE := ends_of (s := s) (k := k) (by omega) hT
  have hTl : (s.take k).length = k := by rw [List.length_take]; omega
  have hs : s = s.take k ++ R ++ B := by rw [List.append_assoc, ← h1, List.take_append_drop]
  obtain ⟨T, hTT⟩ : ∃ T, T = s.take k := ⟨_, rfl⟩
  rw [← hTT] at hE hTl hs ⊢
  refine ⟨m, R, B, hm, h1, h2, by omega, h3, ?_, ?_⟩
  · clear h1 hm hTT hT
    rw [← put_run class_pos hE]
    rcases h4 with rfl | ⟨z, B', rfl, hz⟩
    · rw [List.append_nil] at hs ⊢
      simp only [List.length_nil] at hl
      rw [List.take_of_length_le (by omega), List.drop_eq_nil_of_le (by omega), List.append_nil, ← hs]
    · have e : s = (T ++ R ++ [z]) ++ B' := by rw [List.append_assoc]; exact hs
      have el : k + m + 1 = (T ++ R ++ [z]).length := by rw [List.length_append, List.length_append, hTl, h2]; rfl
      rw [el]
      subst e
      rw [List.take_left, List.drop_left, put_ends class_pos _ hz]
      simp
  · rcases h4 with rfl | ⟨z, B', rfl, hz⟩
    · simp only [List.length_nil] at hl
      left; omega
    · right
      have el : k + m = (T ++ R).length := by rw [List.length_append, hTl, h2]
      have e : s.getD (k + m) 0 = z := by
        rw [el, List.getD_eq_getElem?_getD]
        conv => lhs; rw [hs]
        simp
      rw [e]; exact hz
theorem cut_it (g n l h : Nat) (hl : l < n) (hh : l ≤ h) (hn : h ≤ n) (hi : Option Value) (hhi : (hi = none ∧ h = n) ∨ hi = some (.int .i64 (h : Int))) (w : World) :
    (Instr.sliceAt 94 (.slice (some ⟨g, 0, none⟩) n n) (some (.int .i64 (l : Int))) hi none).run Try.prog w = .ok (.slice (some ⟨g, l * 2, none⟩) (h - l) (n - l)) w ∧
      (Instr.slice 94 (.slice (some ⟨g, 0, none⟩) n n) (some (.int .i64 (l : Int))) hi none).run Try.prog w = .ok (.slice (some ⟨g, l * 2, none⟩) (h - l) (n - l)) w := by
  obtain ⟨i, hi', hz0, hz1, hz2⟩ := info_parts Try.infoItem
  have ht : Try.prog.underlying 94 = some (.slice 99) := by kernel_rfl
  have e1 : (0 : Int) ≤ (l : Int) ∧ (l : Int) ≤ (h : Int) := by omega
  have e2 : (0 : Int) ≤ (h : Int) ∧ (h : Int) ≤ (n : Int) := by omega
  have e3 : ¬ n = l := by omega
  rcases hhi with ⟨rfl, rfl⟩ | rfl <;>
    simp [Instr.sliceAt, Instr.slice, run_underlying ht, Instr.sliceBounds, Instr.sliceBound, asIntOf, sizeOf, typeInfo, hi', hz1, e1, e2, e3, hh, hn, Addr.add]
  all_goals (rcases Nat.eq_zero_or_pos l with rfl | h0)
  all_goals first | (simp; done) | (intro hz; omega)

set_option maxHeartbeats 2000000 in
theorem orderPut : OPutOk := fun v s w h hm => by
  obtain ⟨i0, hi0, hz0, hz1, hz2⟩ := info_parts Try.infoItem
  obtain ⟨n, hn⟩ : ∃ n, n = s.length := ⟨_, rfl⟩
  have HCL := hid (classify9 v s w h hm)
  have HNL := hid hn
  rw [← hn] at hm HCL
  have hgg : w.heap.size ≤ w.heap.size := Nat.le_refl _
  clear h hn
  go_enter Try.func45, Try.ntmps45
  go_wp2_with (go_at_call 57; refine HCL.out.mono ?_; rintro e w1 ⟨rfl, hb1, hl1⟩; have HB1 := hid hb1; have HL1 := hid hl1; clear hb1 hl1)
  obtain ⟨g, hg⟩ : ∃ g, g = w.heap.size := ⟨_, rfl⟩
  rw [← hg] at HB1 ⊢
  have HG := hid hg
  clear hg hgg HCL
  go_loopw [4] (fun kv wr => ∃ k : Nat, k ≤ n + 1 ∧ kv = .int .i64 k ∧ Hid (k = 0 ∨ n < k ∨ (0 < k ∧ classS (s.getD (k - 1) 0) = 0)) ∧ Hid (Box 99 (tcv (putG classS (s.take k) ++ s.drop k)) g wr) ∧ Hid (Below w.heap.size w wr)) (fun kv _ => n + 1 - (intOf kv).toNat)
  case atStart => exact ⟨0, by omega, rfl, .inl rfl, HB1.out, HL1.out⟩
  case round =>
    obtain ⟨k, hk, rfl, hends, hbx, hbel⟩ := hrel
    by_cases hlt : k < n
    · obtain ⟨m, R, B, hm1, hRB, hR, hkm, hRz, hnew, hz⟩ := put_next (s := s) (k := k) (by have := HNL.out; omega) (by have := hends.out; omega)
      have hkm' : k + m ≤ n := by have := HNL.out; omega
      obtain ⟨e, he⟩ : ∃ e, e = k + m := ⟨_, rfl⟩
      have w1 : (k : Int) + (m : Int) = (e : Int) := by omega
      have hek : e - k = m := by omega
      have r1 := fun w => (cut_it g n k n hlt (by omega) (Nat.le_refl _) none (.inl ⟨rfl, rfl⟩) w).1
      have r2 := fun w => (cut_it g n k n hlt (by omega) (Nat.le_refl _) none (.inl ⟨rfl, rfl⟩) w).2
      have r3 := fun w => (cut_it g n k e hlt (by omega) (by omega) (some (.int .i64 (e : Int))) (.inr rfl) w).1
      have r4 := fun w => (cut_it g n k e hlt (by omega) (by omega) (some (.int .i64 (e : Int))) (.inr rfl) w).2
      rw [hek] at r3 r4
      have hA : (putG classS (s.take k)).length = k := by rw [put_len, List.length_take]; have := HNL.out; omega
      have HT : Hid (Tagd (s.drop k) g (k * 2) wr) := hid (by
        have := Tagd.of (A := putG classS (s.take k)) (s := s.drop k) (B := []) (g := g) (w := wr) (by rw [List.append_nil]; exact hbx.out)
        rwa [hA] at this)
      obtain ⟨q, hq⟩ : ∃ q, q = n - k := ⟨_, rfl⟩
      rw [← hq] at r1 r2 r3 r4
      have HCM := hid (countMarks (s.drop k) g (k * 2) q q wr HT.out (by rw [List.length_drop, ← HNL.out]; exact hq) (by omega))
      rw [← hm1] at HCM
      have HBX : Hid (Box 99 (tcv (putG classS (s.take k) ++ R ++ B)) g wr) := hid (by rw [List.append_assoc, ← hRB]; exact hbx.out)
      have HR := hid (show R.length = m ∧ (∀ c ∈ R, classS c ≠ 0) ∧ (putG classS (s.take k)).length = k from ⟨hR, hRz, hA⟩)
      have HNEW := hid hnew
      have HZ := hid (show e = k + m ∧ (s.length < k + m + 1 ∨ classS (s.getD (k + m) 0) = 0) from ⟨he, hz⟩)
      clear hm1 hRB hR hkm hRz hnew hz hA he hek hq hends hbx
      go_wp2_with (first
        | (have _u := HBX7; clear _u; go_at_call 59; refine (sortRun (putG classS (s.take k)) R B g (k * 2) m q w7 HBX7.out HR.out.1 (by omega) (by rw [HR.out.2.2]) HR.out.2.1).mono ?_; rintro e8 w8 ⟨rfl, hb8, hg8⟩; have HB8 := hid hb8; have HL8 : Hid (Below w.heap.size w w8) := hid (HBL7.out.grown hg8 HBL7.out.size (fun j hj => by injection hj with hj; have := HG.out; omega)); clear hb8 hg8)
        | (go_at_call 58; refine HCM.out.mono ?_; rintro e7 w7 ⟨rfl, hb7⟩; have HBX7 := hid (HBX.out.below hb7 HBX.out.lt); have HBL7 := hid (hbel.out.trans (hb7.mono hbel.out.size)); clear hb7))
      go_roundw
      case rel => exact ⟨e + 1, by omega, by go_num, by have := HZ.out; have := HNL.out; show e + 1 = 0 ∨ n < e + 1 ∨ (0 < e + 1 ∧ classS (s.getD (e + 1 - 1) 0) = 0); rw [Nat.add_sub_cancel, HZ.out.1]; omega, by rw [HZ.out.1, ← HNEW.out]; exact HB8.out, HL8.out⟩
      case measure => simp [intOf]; omega
    · have HP : Hid (Box 99 (tcv (putG classS s)) g wr) := hid (by
        have := hbx.out
        rwa [List.take_of_length_le (by have := HNL.out; omega), List.drop_eq_nil_of_le (by have := HNL.out; omega), List.append_nil] at this)
      have HT : Hid (Tagd (putG classS s) g 0 wr) := hid (by
        have := Tagd.of (A := []) (s := putG classS s) (B := []) (g := g) (w := wr) (by rw [List.append_nil]; exact HP.out)
        exact this)
      go_wp2_with (go_at_call 61; refine (numbers9 (putG classS s) g n n wr HT.out (by rw [put_len]; exact HNL.out) hm).mono ?_; rintro e w9 ⟨v9, rfl, ho9, hb9⟩; have HO9 := hid (ho9.mono hbel.out.size); have HB9 := hid (hbel.out.trans (hb9.mono hbel.out.size)); clear ho9 hb9)
      go_ret
      exact ⟨_, rfl, HO9.out, HB9.out⟩

end Go.Proofs.Ytdncmdpacidgmaa
