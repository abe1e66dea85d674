/- Several texts in one: Ord9a, Ord9b, Ord9c. -/
import Derived.Test.YtimbchkoomjhkaaPk27
import Derived.Test.YtimbchkoomjhkaaPk31
/-! Ord9a -/
namespace Go.Proofs.Ytimbchkoomjhkaa
open Go.RowKit

/-- numbers with their classes, as cells -/
def tcv : List Int → List Value
  | [] => []
  | c :: s => .int .i64 c :: .int .i64 (classS c) :: tcv s
theorem tcv_len : ∀ s : List Int, (tcv s).length = s.length * 2
  | [] => rfl
  | c :: s => by rw [tcv, List.length_cons, List.length_cons, tcv_len s, List.length_cons]; omega
theorem tcv_app : ∀ s t : List Int, tcv (s ++ t) = tcv s ++ tcv t
  | [], _ => rfl
  | c :: s, t => by rw [List.cons_append, tcv, tcv, tcv_app s t]; rfl
theorem tcv_at : ∀ {s : List Int} {i : Nat}, i < s.length → (tcv s)[i * 2]? = some (.int .i64 (s.getD i 0)) ∧ (tcv s)[i * 2 + 1]? = some (.int .i64 (classS (s.getD i 0)))
  | [], _, h => by simp at h
  | c :: s, 0, _ => by simp [tcv]
  | c :: s, i + 1, h => by
    have ih := tcv_at (s := s) (i := i) (by simpa using h)
    rw [tcv, show (i + 1) * 2 = i * 2 + 2 by omega]
    simpa using ih
def tag (s : List Int) : List (Int × Int) := s.map fun c => (c, classS c)
theorem icv_tag (s : List Int) : ∀ {M : List Nat}, (∀ k ∈ M, k < s.length) → icv (tag s) M = tcv (M.map fun k => s.getD k 0)
  | [], _ => rfl
  | k :: M, h => by
    have hk := h k (by simp)
    have e : (tag s).getD k noIt = (s.getD k 0, classS (s.getD k 0)) := by
      simp [tag, List.getD_eq_getElem?_getD, List.getElem?_eq_getElem hk]
    rw [icv, icv_tag s (fun j hj => h j (List.mem_cons_of_mem _ hj)), e]
    rfl
theorem icv_all (s : List Int) : icv (tag s) (List.range' 0 s.length) = tcv s := by
  rw [icv_tag s fun k hk => by rw [List.mem_range'_1] at hk; omega]
  congr 1
  refine List.ext_getElem (by simp) fun i h1 h2 => ?_
  simp [List.getD_eq_getElem?_getD]
  rw [List.getElem?_eq_getElem h2]
  rfl
/-- how many marks stand at the beginning -/
def cntM (s : List Int) : Nat := (s.takeWhile fun c => classS c != 0).length
theorem cntM_hit : ∀ {s : List Int} {k : Nat}, k < s.length → (∀ i, i < k → classS (s.getD i 0) ≠ 0) → classS (s.getD k 0) = 0 → cntM s = k
  | [], _, h, _, _ => by simp at h
  | c :: s, 0, _, _, h => by
    have h : classS c = 0 := by simpa using h
    simp [cntM, h]
  | c :: s, k + 1, hk, ha, h => by
    have h0 : classS c ≠ 0 := by simpa using ha 0 (by omega)
    have ih := cntM_hit (s := s) (k := k) (by simpa using hk) (fun i hi => by simpa using ha (i + 1) (by omega)) (by simpa using h)
    unfold cntM at ih ⊢
    rw [List.takeWhile_cons, if_pos (by simpa using h0), List.length_cons, ih]
theorem cntM_none : ∀ {s : List Int}, (∀ i, i < s.length → classS (s.getD i 0) ≠ 0) → cntM s = s.length
  | [], _ => rfl
  | c :: s, ha => by
    have h0 : classS c ≠ 0 := by simpa using ha 0 (by simp)
    have ih := cntM_none (s := s) (fun i hi => by simpa using ha (i + 1) (by simpa using hi))
    unfold cntM at ih ⊢
    rw [List.takeWhile_cons, if_pos (by simpa using h0), List.length_cons, ih, List.length_cons]

/-- numbers with their classes lie in block g from cell off on -/
def Tagd (s : List Int) (g off : Nat) (w : World) : Prop := g < w.heap.size ∧ ∀ i, i < s.length → w.cell? ⟨g, off + i * 2, none⟩ = some (.int .i64 (s.getD i 0)) ∧ w.cell? ⟨g, off + i * 2 + 1, none⟩ = some (.int .i64 (classS (s.getD i 0)))
theorem Tagd.of {A s B : List Int} {g : Nat} {w : World} (h : Box 83 (tcv (A ++ s ++ B)) g w) : Tagd s g (A.length * 2) w := by
  refine ⟨h.lt, fun i hi => ?_⟩
  have hl := tcv_len A
  have a := tcv_at hi
  rw [List.append_assoc, tcv_app, tcv_app] at h
  have hs := tcv_len s
  constructor
  · rw [h.cell, List.getElem?_append_right (by omega), List.getElem?_append_left (by omega), show A.length * 2 + i * 2 - (tcv A).length = i * 2 by omega]
    exact a.1
  · rw [h.cell, List.getElem?_append_right (by omega), List.getElem?_append_left (by omega), show A.length * 2 + i * 2 + 1 - (tcv A).length = i * 2 + 1 by omega]
    exact a.2

set_option maxHeartbeats 1000000 in
theorem markRule (n c : Int) (w : World) : Calls Try.prog 77 #[.agg #[.int .i64 n, .int .i64 c]] w fun e w' => e = .returned (.bool (c == 0)) ∧ Below w.heap.size w w' := by
  obtain ⟨i0, hi0, hz0, hz1, hz2⟩ := info_parts Try.infoItem
  obtain ⟨b, hb⟩ : ∃ b, b = (c == 0) := ⟨_, rfl⟩
  have hb2 : (c == 0) = b := hb.symm
  rw [← hb]
  clear hb
  go_enter Try.func77, Try.ntmps77
  go_wp2_with (fail)
  go_ret
  exact ⟨rfl, by (repeat (first | exact Below.refl _ _ | exact below_drewN _ | refine Below.drew ?_ | refine Below.alloc ?_ (by simp) _ | refine Below.setCell ?_ (by simp) _ | refine below_drewN' ?_ _))⟩

set_option maxHeartbeats 2000000 in
theorem indexMarks (s : List Int) (g off n cap : Nat) (w : World) (h : Tagd s g off w) (hn : n = s.length) (hm : n ≤ 1000000) :
    Calls Try.prog 76 #[.slice (some ⟨g, off, none⟩) n cap, .func (.func 77) #[] #[]] w fun e w' => e = .returned (.int .i64 (if cntM s = n then -1 else (cntM s : Int))) ∧ Below w.heap.size w w' := by
  obtain ⟨i0, hi0, hz0, hz1, hz2⟩ := info_parts Try.infoItem
  obtain ⟨R, hR⟩ : ∃ R : Int, R = if cntM s = n then -1 else (cntM s : Int) := ⟨_, rfl⟩
  have hH : ∀ k, k < n → (∀ i, i < k → classS (s.getD i 0) ≠ 0) → classS (s.getD k 0) = 0 → R = (k : Int) := fun k hk ha h0 => by
    rw [hR, cntM_hit (by omega) ha h0, if_neg (by omega)]
  have hN : (∀ i, i < n → classS (s.getD i 0) ≠ 0) → R = -1 := fun ha => by
    rw [hR, cntM_none (by rw [← hn]; exact ha), if_pos hn.symm]
  rw [← hR]
  have HH := hid hH
  have HN := hid hN
  have H1 := hid h
  have HNL := hid hn
  clear hH hN h hR hn
  go_enter Try.func76, Try.ntmps76
  go_wp2_with (fail)
  go_loopw [8] (fun iv wr => ∃ k : Nat, k ≤ n ∧ iv = .int .i64 k ∧ Hid (Below w.heap.size w wr) ∧ Hid (∀ i, i < k → classS (s.getD i 0) ≠ 0)) (fun iv _ => n - (intOf iv).toNat)
  case atStart => exact ⟨0, by omega, rfl, Below.refl _ _, fun i hi => absurd hi (by omega)⟩
  case round =>
    obtain ⟨k, hk, rfl, hbel, hall⟩ := hrel
    by_cases hlt : k < n
    · obtain ⟨d1, d2⟩ := H1.out.2 k (by have := HNL.out; omega)
      have d1 := (hbel.out.cell (p := ⟨g, off + k * 2, none⟩) H1.out.1).trans d1
      have d2 := (hbel.out.cell (p := ⟨g, off + k * 2 + 1, none⟩) H1.out.1).trans d2
      have hh := hid (HH.out k hlt hall.out)
      have HNX := hid (show classS (s.getD k 0) ≠ 0 → ∀ i, i < k + 1 → classS (s.getD i 0) ≠ 0 from fun he i hi => by
        rcases Nat.lt_or_ge i k with h | h
        · exact hall.out i h
        · obtain rfl : i = k := by omega
          exact he)
      generalize classS (s.getD k 0) = c at d2 hh HNX
      generalize s.getD k 0 = x at d1
      obtain ⟨b, hb⟩ : ∃ b, b = (c == 0) := ⟨_, rfl⟩
      have HC := hid (markRule x c wr)
      rw [← hb] at HC
      cases b with
      | true =>
        have hr := hid (hh.out (by simpa using hb.symm))
        clear hb
        go_wp2_with (go_at_call 77; refine HC.out.mono ?_; rintro e wu ⟨rfl, hbu⟩; have HBU := hid (hbel.out.trans (hbu.mono hbel.out.size)); clear hbu)
        go_ret
        exact ⟨by rw [hr.out]; rfl, HBU.out⟩
      | false =>
        have hr := hid (HNX.out (by simpa using hb.symm))
        clear hb
        go_wp2_with (go_at_call 77; refine HC.out.mono ?_; rintro e wu ⟨rfl, hbu⟩; have HBU := hid (hbel.out.trans (hbu.mono hbel.out.size)); clear hbu)
        go_roundw
        case rel => exact ⟨k + 1, by omega, by go_num, HBU.out, hr.out⟩
        case measure => simp [intOf]; omega
    · obtain rfl : k = n := by omega
      have hr := hid (HN.out hall.out)
      go_wp2_with (fail)
      go_ret
      exact ⟨by rw [hr.out]; rfl, hbel.out⟩

set_option maxHeartbeats 1000000 in
theorem countMarks (s : List Int) (g off n cap : Nat) (w : World) (h : Tagd s g off w) (hn : n = s.length) (hm : n ≤ 1000000) :
    Calls Try.prog 56 #[.slice (some ⟨g, off, none⟩) n cap] w fun e w' => e = .returned (.int .i64 (cntM s)) ∧ Below w.heap.size w w' := by
  obtain ⟨m, hmm⟩ : ∃ m, m = cntM s := ⟨_, rfl⟩
  have hle : m ≤ n := by rw [hmm, hn]; exact (List.takeWhile_sublist _).length_le
  have HX := hid (indexMarks s g off n cap w h hn hm)
  rw [← hmm] at HX ⊢
  clear hmm h hn
  go_enter Try.func56, Try.ntmps56
  by_cases he : m = n
  · subst he
    have HX2 : Hid (Calls Try.prog 76 #[.slice (some ⟨g, off, none⟩) m cap, .func (.func 77) #[] #[]] w fun e w' => e = .returned (.int .i64 (-1)) ∧ Below w.heap.size w w') := hid (by have := HX.out; rwa [if_pos rfl] at this)
    go_wp2_with (go_at_call 76; refine HX2.out.mono ?_; rintro e w1 ⟨rfl, hb1⟩; have HB1 := hid hb1; clear hb1)
    go_ret
    exact ⟨rfl, HB1.out⟩
  · have HX2 : Hid (Calls Try.prog 76 #[.slice (some ⟨g, off, none⟩) n cap, .func (.func 77) #[] #[]] w fun e w' => e = .returned (.int .i64 (m : Int)) ∧ Below w.heap.size w w') := hid (by have := HX.out; rwa [if_neg he] at this)
    have hm0 : ¬ ((m : Int) < 0) := by omega
    go_wp2_with (go_at_call 76; refine HX2.out.mono ?_; rintro e w1 ⟨rfl, hb1⟩; have HB1 := hid hb1; clear hb1)
    go_ret
    exact ⟨rfl, HB1.out⟩

theorem sortFunc (it : List (Int × Int)) (g off cap n : Nat) (pre post : List Value) (w : World) (hb : Rit0 it g off pre post (List.range' 0 n) w) (hn : n ≤ 1000000) (hl : n = it.length) :
    Calls Try.prog 57 #[.slice (some ⟨g, off, none⟩) n cap, .func (.func 58) #[] #[]] w fun e w' => e = .returned (.tuple #[]) ∧
      ∃ M, IsPl (lcl it) n M ∧ Rit it g off pre post w M w' := by
  have HB := hid hb
  have HL := hid (show n = (lcl it).length by rw [lcl_len]; exact hl)
  clear hb hl
  go_enter Try.func57, Try.ntmps57
  go_wp2_with (go_at_call 78; refine (stableItems it g off cap n pre post (lcl it) rfl w HB.out hn HL.out).mono ?_; rintro e w' ⟨rfl, M, hm, hr⟩; have HM := hid hm; have HR := hid hr; clear hm hr)
  go_end0
  exact ⟨rfl, M, HM.out, HR.out⟩
theorem sortRun (A R B : List Int) (g off n cap : Nat) (w : World) (hb : Box 83 (tcv (A ++ R ++ B)) g w) (hn : R.length = n) (hm : n ≤ 1000000) (ho : off = A.length * 2) (hz : ∀ c ∈ R, classS c ≠ 0) :
    Calls Try.prog 57 #[.slice (some ⟨g, off, none⟩) n cap, .func (.func 58) #[] #[]] w fun e w' => e = .returned (.tuple #[]) ∧
      Box 83 (tcv (A ++ putG classS R ++ B)) g w' ∧ w.grownBy w' (some g) := by
  subst hn ho
  refine (sortFunc (tag R) g (A.length * 2) cap R.length (tcv A) (tcv B) w ⟨by rw [icv_all, ← tcv_app, ← tcv_app]; exact hb, (tcv_len A).symm⟩ hm (by simp [tag])).mono ?_
  rintro e w' ⟨rfl, M, hM, hr⟩
  refine ⟨rfl, ?_, hr.2⟩
  have h1 := hr.1.1
  rw [icv_tag R fun k hk => hM.lt hk, place_marks (cl := classS) rfl hM class_pos hz, ← tcv_app, ← tcv_app] at h1
  exact h1
end Go.Proofs.Ytimbchkoomjhkaa

/-! Ord9b -/
namespace Go.Proofs.Ytimbchkoomjhkaa
open Go.RowKit

theorem make_items (n : Nat) (hn : n ≤ 1000000) (w : World) : (Instr.makeSlice 78 (.int .i64 (n : Int)) (.int .i64 (n : Int))).run Try.prog w = .ok (.slice (some ⟨w.heap.size, 0, none⟩) n n) (w.alloc (.cells (List.replicate (n * 2) (Value.int .i64 0)).toArray 83)) := by
  obtain ⟨i, hi, hz0, hz1, hz2⟩ := info_parts Try.infoItem
  have := run_make (P := Try.prog) w 78 83 i (.agg #[.int .i64 0, .int .i64 0]) (by kernel_rfl) hi hz0 .i64 .i64 (n : Int) (n : Int) (by omega) (by omega) (by rw [hz2]; omega) (by omega)
  rw [this, hz1]
  have e : madeCells (Value.agg #[.int .i64 0, .int .i64 0]).cells ((n : Int).toNat * 2) = (List.replicate (n * 2) (Value.int .i64 0)).toArray := by
    apply Array.ext
    · simp [madeCells]
    · intro j h1 h2
      rcases Nat.mod_two_eq_zero_or_one j with h | h <;> simp [madeCells, Value.cells, h]
  rw [e]
  rfl
theorem make_nums (n : Nat) (hn : n ≤ 1000000) (w : World) : (Instr.makeSlice 22 (.int .i64 (n : Int)) (.int .i64 (n : Int))).run Try.prog w = .ok (.slice (some ⟨w.heap.size, 0, none⟩) n n) (w.alloc (.cells (List.replicate n (Value.int .i64 0)).toArray 3)) := by
  obtain ⟨i, hi, hz0, hz1, hz2⟩ := info_parts Try.infoI64
  have := run_make (P := Try.prog) w 22 3 i (.int .i64 0) Try.underlying22 hi hz0 .i64 .i64 (n : Int) (n : Int) (by omega) (by omega) (by rw [hz2]; omega) (by omega)
  rw [this, hz1]
  have e : madeCells (Value.int .i64 0).cells ((n : Int).toNat * 1) = (List.replicate n (Value.int .i64 0)).toArray := by
    apply Array.ext
    · simp [madeCells]
    · intro j h1 h2
      simp [madeCells, Value.cells, Nat.mod_one]
  rw [e]
  rfl
theorem take_one {s : List Int} {k : Nat} (h : k < s.length) : s.take (k + 1) = s.take k ++ [s.getD k 0] := by
  rw [List.take_succ_eq_append_getElem h, List.getD_eq_getElem?_getD, List.getElem?_eq_getElem h]
  rfl
/-- the first k filled in -/
def fillT (s : List Int) (k : Nat) : List Value := tcv (s.take k) ++ List.replicate ((s.length - k) * 2) (Value.int .i64 0)
theorem fillT_zero (s : List Int) : fillT s 0 = List.replicate (s.length * 2) (Value.int .i64 0) := by simp [fillT, tcv]
theorem fillT_all (s : List Int) : fillT s s.length = tcv s := by simp [fillT]
theorem fillT_next {s : List Int} {k : Nat} (h : k < s.length) : ((fillT s k).set (k * 2) (.int .i64 (s.getD k 0))).set (k * 2 + 1) (.int .i64 (classS (s.getD k 0))) = fillT s (k + 1) := by
  have hl := tcv_len (s.take k)
  rw [List.length_take] at hl
  unfold fillT
  rw [show (s.length - k) * 2 = (s.length - (k + 1)) * 2 + 1 + 1 by omega, List.replicate_succ, List.replicate_succ, take_one h, tcv_app,
    List.set_append_right _ _ (by omega), show k * 2 - (tcv (s.take k)).length = 0 by omega, List.set_append_right _ _ (by omega), show k * 2 + 1 - (tcv (s.take k)).length = 1 by omega]
  simp [tcv]
def fillN (s : List Int) (k : Nat) : List Value := (s.take k).map (Value.int .i64) ++ List.replicate (s.length - k) (Value.int .i64 0)
theorem fillN_zero (s : List Int) : fillN s 0 = List.replicate s.length (Value.int .i64 0) := by simp [fillN]
theorem fillN_all (s : List Int) : fillN s s.length = s.map (Value.int .i64) := by simp [fillN]
theorem fillN_next {s : List Int} {k : Nat} (h : k < s.length) : (fillN s k).set k (.int .i64 (s.getD k 0)) = fillN s (k + 1) := by
  unfold fillN
  rw [show s.length - k = (s.length - (k + 1)) + 1 by omega, List.replicate_succ, take_one h, List.map_append, List.set_append_right _ _ (by rw [List.length_map, List.length_take]; omega), List.length_map, List.length_take, show k - min k s.length = 0 by omega]
  simp
theorem own_nums {g base n : Nat} {w : World} {s : List Int} (hb : Box 3 (s.map (Value.int .i64)) g w) (hl : s.length = n) (hg : base ≤ g) (hk : n ≤ 1000000) : Own .i64 3 base w (.slice (some ⟨g, 0, none⟩) n n) s := by
  subst hl
  refine ⟨by simp, .inr ⟨g, s.length, (s.map (Value.int .i64)).toArray, rfl, hg, hb, Nat.le_refl _, by unfold maxLen; omega, by simp, ?_⟩⟩
  rw [Nat.mul_one, List.take_of_length_le (by simp)]
theorem fillT_at {s : List Int} {k : Nat} (h : k < s.length) : (fillT s k)[k * 2]? = some (.int .i64 0) ∧ (fillT s k)[k * 2 + 1]? = some (.int .i64 0) := by
  have hl := tcv_len (s.take k)
  rw [List.length_take] at hl
  unfold fillT
  constructor
  · rw [List.getElem?_append_right (by omega), List.getElem?_replicate, if_pos (by omega)]
  · rw [List.getElem?_append_right (by omega), List.getElem?_replicate, if_pos (by omega)]
theorem fillN_at {s : List Int} {k : Nat} (h : k < s.length) : (fillN s k)[k]? = some (.int .i64 0) := by
  unfold fillN
  rw [List.getElem?_append_right (by rw [List.length_map, List.length_take]; omega), List.getElem?_replicate, if_pos (by rw [List.length_map, List.length_take]; omega)]

set_option maxHeartbeats 2000000 in
theorem classify9 (v : Value) (s : List Int) (w : World) (h : Sl .i64 w v s) (hm : s.length ≤ 1000000) :
    Calls Try.prog 55 #[v] w fun e w' => e = .returned (.slice (some ⟨w.heap.size, 0, none⟩) s.length s.length) ∧ Box 83 (tcv s) w.heap.size w' ∧ Below w.heap.size w w' := by
  obtain ⟨i0, hi0, hz0, hz1, hz2⟩ := info_parts Try.infoItem
  obtain ⟨a, cap, rfl, q1, m1, h1⟩ := h
  obtain ⟨n, hn⟩ : ∃ n, n = s.length := ⟨_, rfl⟩
  have hmk := make_items n (by omega) w
  have HNL := hid hn
  have H1 := hid h1
  rw [← hn] at q1 hm ⊢
  have HB0 : Hid (Box 83 (fillT s 0) w.heap.size (w.alloc (.cells (List.replicate (n * 2) (Value.int .i64 0)).toArray 83))) := hid (by rw [fillT_zero, ← hn]; exact Box.made _ _ _)
  have HL0 : Hid (Below w.heap.size w (w.alloc (.cells (List.replicate (n * 2) (Value.int .i64 0)).toArray 83))) := hid (by (repeat (first | exact Below.refl _ _ | exact below_drewN _ | refine Below.drew ?_ | refine Below.alloc ?_ (by simp) _ | refine Below.setCell ?_ (by simp) _ | refine below_drewN' ?_ _)))
  clear h1 hn m1
  generalize w.alloc (.cells (List.replicate (n * 2) (Value.int .i64 0)).toArray 83) = wb at hmk HB0 HL0
  go_enter Try.func55, Try.ntmps55
  go_wp2_with (fail)
  go_loopw [11] (fun iv wr => ∃ k : Nat, k ≤ n ∧ iv = .int .i64 k ∧ Hid (Box 83 (fillT s k) w.heap.size wr) ∧ Hid (Below w.heap.size w wr)) (fun iv _ => n - (intOf iv).toNat)
  case atStart => exact ⟨0, by omega, rfl, HB0.out, HL0.out⟩
  case round =>
    obtain ⟨k, hk, rfl, hbx, hbel⟩ := hrel
    by_cases hlt : k < n
    · rcases H1.out with hc | ⟨b1, o1, rfl, hb1, c1⟩
      · omega
      have hb1' := hb1 (by have := HNL.out; omega)
      have d1 := (hbel.out.cell (p := ⟨b1, o1 + k, none⟩) hb1').trans (c1 k (by have := HNL.out; omega))
      have hst := fillT_next (s := s) (k := k) (by have := HNL.out; omega)
      have HAT := hid (fillT_at (s := s) (k := k) (by have := HNL.out; omega))
      generalize s.getD k 0 = x at d1 hst
      have HST := hid hst
      clear hst c1 hb1
      go_wp2_with (go_at_call 21; refine (ucdClass x wr).mono ?_; rintro e w2 ⟨rfl, hb2⟩; have HBX2 := hid (hbx.out.below hb2 hbx.out.lt); have HBL2 := hid (hbel.out.trans (hb2.mono hbel.out.size)); have f1 := HBX2.out.ice (k * 2); have f2 := HBX2.out.ice (k * 2 + 1); have e1 := (HBX2.out.cell (k * 2)).trans HAT.out.1; have e2 := (HBX2.out.cell (k * 2 + 1)).trans HAT.out.2; clear hb2)
      go_roundw
      case rel => exact ⟨k + 1, by omega, by go_num, by rw [← HST.out]; exact (HBX2.out.set _ _).set _ _, by exact (HBL2.out.setCell (Nat.le_refl _) _).setCell (Nat.le_refl _) _⟩
      case measure => simp [intOf]; omega
    · obtain rfl : k = n := by omega
      go_wp2_with (fail)
      go_ret
      refine ⟨rfl, ?_, hbel.out⟩
      have := hbx.out
      rwa [HNL.out, fillT_all] at this

set_option maxHeartbeats 2000000 in
theorem numbers9 (s : List Int) (g n cap : Nat) (w : World) (h : Tagd s g 0 w) (hn : n = s.length) (hm : n ≤ 1000000) :
    Calls Try.prog 59 #[.slice (some ⟨g, 0, none⟩) n cap] w fun e w' => ∃ v, e = .returned v ∧ Own .i64 3 w.heap.size w' v s ∧ Below w.heap.size w w' := by
  obtain ⟨i0, hi0, hz0, hz1, hz2⟩ := info_parts Try.infoItem
  have hmk := make_nums n (by omega) w
  have HNL := hid hn
  have H1 := hid h
  have HB0 : Hid (Box 3 (fillN s 0) w.heap.size (w.alloc (.cells (List.replicate n (Value.int .i64 0)).toArray 3))) := hid (by rw [fillN_zero, ← hn]; exact Box.made _ _ _)
  have HL0 : Hid (Below w.heap.size w (w.alloc (.cells (List.replicate n (Value.int .i64 0)).toArray 3))) := hid (by (repeat (first | exact Below.refl _ _ | exact below_drewN _ | refine Below.drew ?_ | refine Below.alloc ?_ (by simp) _ | refine Below.setCell ?_ (by simp) _ | refine below_drewN' ?_ _)))
  clear h hn
  generalize w.alloc (.cells (List.replicate n (Value.int .i64 0)).toArray 3) = wb at hmk HB0 HL0
  go_enter Try.func59, Try.ntmps59
  go_wp2_with (fail)
  go_loopw [11] (fun iv wr => ∃ k : Nat, k ≤ n ∧ iv = .int .i64 k ∧ Hid (Box 3 (fillN s k) w.heap.size wr) ∧ Hid (Below w.heap.size w wr)) (fun iv _ => n - (intOf iv).toNat)
  case atStart => exact ⟨0, by omega, rfl, HB0.out, HL0.out⟩
  case round =>
    obtain ⟨k, hk, rfl, hbx, hbel⟩ := hrel
    by_cases hlt : k < n
    · obtain ⟨d1, d2⟩ := H1.out.2 k (by have := HNL.out; omega)
      rw [Nat.zero_add] at d1 d2
      have d1 := (hbel.out.cell (p := ⟨g, k * 2, none⟩) H1.out.1).trans d1
      have d2 := (hbel.out.cell (p := ⟨g, k * 2 + 1, none⟩) H1.out.1).trans d2
      have hst := fillN_next (s := s) (k := k) (by have := HNL.out; omega)
      have e1 := (hbx.out.cell k).trans (fillN_at (s := s) (k := k) (by have := HNL.out; omega))
      generalize classS (s.getD k 0) = c at d2
      generalize s.getD k 0 = x at d1 hst
      have HST := hid hst
      have hlt2 := hbx.out.lt
      have f1 := hbx.out.ice k
      clear hst
      go_wp2_with (fail)
      go_roundw
      case rel => exact ⟨k + 1, by omega, by go_num, by rw [← HST.out]; exact (hbx.out.set _ _).alloc _, by exact (hbel.out.setCell (Nat.le_refl _) _).alloc (hbel.out.setCell (Nat.le_refl _) _).size _⟩
      case measure => simp [intOf]; omega
    · obtain rfl : k = n := by omega
      go_wp2_with (fail)
      go_ret
      refine ⟨_, rfl, own_nums (by have := hbx.out; rwa [HNL.out, fillN_all] at this) HNL.out.symm (Nat.le_refl _) hm, hbel.out⟩
end Go.Proofs.Ytimbchkoomjhkaa

/-! Ord9c -/
namespace Go.Proofs.Ytimbchkoomjhkaa
open Go.RowKit

theorem ends_of {s : List Int} {k : Nat} (hk : k ≤ s.length) (h : k = 0 ∨ (0 < k ∧ classS (s.getD (k - 1) 0) = 0)) : s.take k = [] ∨ ∃ A z, s.take k = A ++ [z] ∧ classS z = 0 := by
  rcases h with rfl | ⟨h0, h1⟩
  · exact .inl rfl
  · obtain ⟨j, rfl⟩ : ∃ j, k = j + 1 := ⟨k - 1, by omega⟩
    exact .inr ⟨s.take j, s.getD j 0, take_one (by omega), h1⟩
theorem cntM_split (t : List Int) : ∃ R B, t = R ++ B ∧ R.length = cntM t ∧ (∀ c ∈ R, classS c ≠ 0) ∧ (B = [] ∨ ∃ z B', B = z :: B' ∧ classS z = 0) := by
  induction t with
  | nil => exact ⟨[], [], rfl, rfl, fun _ h => (by simp at h), .inl rfl⟩
  | cons c t ih =>
    obtain ⟨R, B, h1, h2, h3, h4⟩ := ih
    by_cases h : classS c = 0
    · refine ⟨[], c :: t, rfl, ?_, fun _ h => (by simp at h), .inr ⟨c, t, rfl, h⟩⟩
      simp [cntM, h]
    · refine ⟨c :: R, B, by rw [h1]; rfl, ?_, fun x hx => ?_, h4⟩
      · unfold cntM at h2 ⊢
        rw [List.takeWhile_cons, if_pos (by simpa using h), List.length_cons, List.length_cons, h2]
      · rcases List.mem_cons.1 hx with rfl | hx
        · exact h
        · exact h3 x hx
theorem put_next {s : List Int} {k : Nat} (hk : k < s.length) (hT : k = 0 ∨ (0 < k ∧ classS (s.getD (k - 1) 0) = 0)) : ∃ (m : Nat) (R B : List Int), m = cntM (s.drop k) ∧ s.drop k = R ++ B ∧ R.length = m ∧ k + m ≤ s.length ∧ (∀ c ∈ R, classS c ≠ 0) ∧
    putG classS (s.take k) ++ putG classS R ++ B = putG classS (s.take (k + m + 1)) ++ s.drop (k + m + 1) ∧ (s.length < k + m + 1 ∨ classS (s.getD (k + m) 0) = 0) := by
  obtain ⟨R, B, h1, h2, h3, h4⟩ := cntM_split (s.drop k)
  obtain ⟨m, hm⟩ : ∃ m, m = cntM (s.drop k) := ⟨_, rfl⟩
  rw [← hm] at h2
  have hl : (s.drop k).length = R.length + B.length := by rw [h1, List.length_append]
  rw [List.length_drop] at hl
  have hE := ends_of (s := s) (k := k) (by omega) hT
  have hTl : (s.take k).length = k := by rw [List.length_take]; omega
  have hs : s = s.take k ++ R ++ B := by rw [List.append_assoc, ← h1, List.take_append_drop]
  obtain ⟨T, hTT⟩ : ∃ T, T = s.take k := ⟨_, rfl⟩
  rw [← hTT] at hE hTl hs ⊢
  refine ⟨m, R, B, hm, h1, h2, by omega, h3, ?_, ?_⟩
  · clear h1 hm hTT hT
    rw [← put_run class_pos hE]
    rcases h4 with rfl | ⟨z, B', rfl, hz⟩
    · rw [List.append_nil] at hs ⊢
      simp only [List.length_nil] at hl
      rw [List.take_of_length_le (by omega), List.drop_eq_nil_of_le (by omega), List.append_nil, ← hs]
    · have e : s = (T ++ R ++ [z]) ++ B' := by rw [List.append_assoc]; exact hs
      have el : k + m + 1 = (T ++ R ++ [z]).length := by rw [List.length_append, List.length_append, hTl, h2]; rfl
      rw [el]
      subst e
      rw [List.take_left, List.drop_left, put_ends class_pos _ hz]
      simp
  · rcases h4 with rfl | ⟨z, B', rfl, hz⟩
    · simp only [List.length_nil] at hl
      left; omega
    · right
      have el : k + m = (T ++ R).length := by rw [List.length_append, hTl, h2]
      have e : s.getD (k + m) 0 = z := by
        rw [el, List.getD_eq_getElem?_getD]
        conv => lhs; rw [hs]
        simp
      rw [e]; exact hz
theorem cut_it (g n l h : Nat) (hl : l < n) (hh : l ≤ h) (hn : h ≤ n) (hi : Option Value) (hhi : (hi = none ∧ h = n) ∨ hi = some (.int .i64 (h : Int))) (w : World) :
    (Instr.sliceAt 78 (.slice (some ⟨g, 0, none⟩) n n) (some (.int .i64 (l : Int))) hi none).run Try.prog w = .ok (.slice (some ⟨g, l * 2, none⟩) (h - l) (n - l)) w ∧
      (Instr.slice 78 (.slice (some ⟨g, 0, none⟩) n n) (some (.int .i64 (l : Int))) hi none).run Try.prog w = .ok (.slice (some ⟨g, l * 2, none⟩) (h - l) (n - l)) w := by
  obtain ⟨i, hi', hz0, hz1, hz2⟩ := info_parts Try.infoItem
  have ht : Try.prog.underlying 78 = some (.slice 83) := by kernel_rfl
  have e1 : (0 : Int) ≤ (l : Int) ∧ (l : Int) ≤ (h : Int) := by omega
  have e2 : (0 : Int) ≤ (h : Int) ∧ (h : Int) ≤ (n : Int) := by omega
  have e3 : ¬ n = l := by omega
  rcases hhi with ⟨rfl, rfl⟩ | rfl <;>
    simp [Instr.sliceAt, Instr.slice, run_underlying ht, Instr.sliceBounds, Instr.sliceBound, asIntOf, sizeOf, typeInfo, hi', hz1, e1, e2, e3, hh, hn, Addr.add]
  all_goals (rcases Nat.eq_zero_or_pos l with rfl | h0)
  all_goals first | (simp; done) | (intro hz; omega)

set_option maxHeartbeats 2000000 in
theorem orderPut : OPutOk := fun v s w h hm => by
  obtain ⟨i0, hi0, hz0, hz1, hz2⟩ := info_parts Try.infoItem
  obtain ⟨n, hn⟩ : ∃ n, n = s.length := ⟨_, rfl⟩
  have HCL := hid (classify9 v s w h hm)
  have HNL := hid hn
  rw [← hn] at hm HCL
  have hgg : w.heap.size ≤ w.heap.size := Nat.le_refl _
  clear h hn
  go_enter Try.func31, Try.ntmps31
  go_wp2_with (go_at_call 55; refine HCL.out.mono ?_; rintro e w1 ⟨rfl, hb1, hl1⟩; have HB1 := hid hb1; have HL1 := hid hl1; clear hb1 hl1)
  obtain ⟨g, hg⟩ : ∃ g, g = w.heap.size := ⟨_, rfl⟩
  rw [← hg] at HB1 ⊢
  have HG := hid hg
  clear hg hgg HCL
  go_loopw [4] (fun kv wr => ∃ k : Nat, k ≤ n + 1 ∧ kv = .int .i64 k ∧ Hid (k = 0 ∨ n < k ∨ (0 < k ∧ classS (s.getD (k - 1) 0) = 0)) ∧ Hid (Box 83 (tcv (putG classS (s.take k) ++ s.drop k)) g wr) ∧ Hid (Below w.heap.size w wr)) (fun kv _ => n + 1 - (intOf kv).toNat)
  case atStart => exact ⟨0, by omega, rfl, .inl rfl, HB1.out, HL1.out⟩
  case round =>
    obtain ⟨k, hk, rfl, hends, hbx, hbel⟩ := hrel
    by_cases hlt : k < n
    · obtain ⟨m, R, B, hm1, hRB, hR, hkm, hRz, hnew, hz⟩ := put_next (s := s) (k := k) (by have := HNL.out; omega) (by have := hends.out; omega)
      have hkm' : k + m ≤ n := by have := HNL.out; omega
      obtain ⟨e, he⟩ : ∃ e, e = k + m := ⟨_, rfl⟩
      have w1 : (k : Int) + (m : Int) = (e : Int) := by omega
      have hek : e - k = m := by omega
      have r1 := fun w => (cut_it g n k n hlt (by omega) (Nat.le_refl _) none (.inl ⟨rfl, rfl⟩) w).1
      have r2 := fun w => (cut_it g n k n hlt (by omega) (Nat.le_refl _) none (.inl ⟨rfl, rfl⟩) w).2
      have r3 := fun w => (cut_it g n k e hlt (by omega) (by omega) (some (.int .i64 (e : Int))) (.inr rfl) w).1
      have r4 := fun w => (cut_it g n k e hlt (by omega) (by omega) (some (.int .i64 (e : Int))) (.inr rfl) w).2
      rw [hek] at r3 r4
      have hA : (putG classS (s.take k)).length = k := by rw [put_len, List.length_take]; have := HNL.out; omega
      have HT : Hid (Tagd (s.drop k) g (k * 2) wr) := hid (by
        have := Tagd.of (A := putG classS (s.take k)) (s := s.drop k) (B := []) (g := g) (w := wr) (by rw [List.append_nil]; exact hbx.out)
        rwa [hA] at this)
      obtain ⟨q, hq⟩ : ∃ q, q = n - k := ⟨_, rfl⟩
      rw [← hq] at r1 r2 r3 r4
      have HCM := hid (countMarks (s.drop k) g (k * 2) q q wr HT.out (by rw [List.length_drop, ← HNL.out]; exact hq) (by omega))
      rw [← hm1] at HCM
      have HBX : Hid (Box 83 (tcv (putG classS (s.take k) ++ R ++ B)) g wr) := hid (by rw [List.append_assoc, ← hRB]; exact hbx.out)
      have HR := hid (show R.length = m ∧ (∀ c ∈ R, classS c ≠ 0) ∧ (putG classS (s.take k)).length = k from ⟨hR, hRz, hA⟩)
      have HNEW := hid hnew
      have HZ := hid (show e = k + m ∧ (s.length < k + m + 1 ∨ classS (s.getD (k + m) 0) = 0) from ⟨he, hz⟩)
      clear hm1 hRB hR hkm hRz hnew hz hA he hek hq hends hbx
      go_wp2_with (first
        | (have _u := HBX7; clear _u; go_at_call 57; refine (sortRun (putG classS (s.take k)) R B g (k * 2) m q w7 HBX7.out HR.out.1 (by omega) (by rw [HR.out.2.2]) HR.out.2.1).mono ?_; rintro e8 w8 ⟨rfl, hb8, hg8⟩; have HB8 := hid hb8; have HL8 : Hid (Below w.heap.size w w8) := hid (HBL7.out.grown hg8 HBL7.out.size (fun j hj => by injection hj with hj; have := HG.out; omega)); clear hb8 hg8)
        | (go_at_call 56; refine HCM.out.mono ?_; rintro e7 w7 ⟨rfl, hb7⟩; have HBX7 := hid (HBX.out.below hb7 HBX.out.lt); have HBL7 := hid (hbel.out.trans (hb7.mono hbel.out.size)); clear hb7))
      go_roundw
      case rel => exact ⟨e + 1, by omega, by go_num, by have := HZ.out; have := HNL.out; show e + 1 = 0 ∨ n < e + 1 ∨ (0 < e + 1 ∧ classS (s.getD (e + 1 - 1) 0) = 0); rw [Nat.add_sub_cancel, HZ.out.1]; omega, by rw [HZ.out.1, ← HNEW.out]; exact HB8.out, HL8.out⟩
      case measure => simp [intOf]; omega
    · have HP : Hid (Box 83 (tcv (putG classS s)) g wr) := hid (by
        have := hbx.out
        rwa [List.take_of_length_le (by have := HNL.out; omega), List.drop_eq_nil_of_le (by have := HNL.out; omega), List.append_nil] at this)
      have HT : Hid (Tagd (putG classS s) g 0 wr) := hid (by
        have := Tagd.of (A := []) (s := putG classS s) (B := []) (g := g) (w := wr) (by rw [List.append_nil]; exact HP.out)
        exact this)
      go_wp2_with (go_at_call 59; refine (numbers9 (putG classS s) g n n wr HT.out (by rw [put_len]; exact HNL.out) hm).mono ?_; rintro e w9 ⟨v9, rfl, ho9, hb9⟩; have HO9 := hid (ho9.mono hbel.out.size); have HB9 := hid (hbel.out.trans (hb9.mono hbel.out.size)); clear ho9 hb9)
      go_ret
      exact ⟨_, rfl, HO9.out, HB9.out⟩

end Go.Proofs.Ytimbchkoomjhkaa
