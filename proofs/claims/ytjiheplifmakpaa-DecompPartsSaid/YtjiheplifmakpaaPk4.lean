/- Several texts in one: Ucd3, Ref7, Ucd5, Ucd6, RngMath, RngPack. -/
import Derived.Test.YtjiheplifmakpaaPk3
import Derived.Test.YtjiheplifmakpaaPk2
/-! Ucd3 -/
namespace Go.Proofs.Ytjiheplifmakpaa
open Go.RowKit

/-- the first entry with a scalar, and whether there is one -/
def fndM (c : Int) : List Mp → Mp × Bool
  | [] => (noMp, false)
  | r :: l => if r.f == c then (r, true) else fndM c l
theorem fndM_drop {c : Int} : ∀ {l : List Mp} {k : Nat}, k ≤ l.length → (∀ i, i < k → ((l.getD i noMp).f == c) = false) → fndM c l = fndM c (l.drop k)
  | _, 0, _, _ => rfl
  | [], k + 1, h, _ => by simp at h
  | r :: l, k + 1, h, ha => by
    have h0 := ha 0 (by omega)
    simp only [List.getD_cons_zero] at h0
    rw [fndM, h0, List.drop_succ_cons]
    exact fndM_drop (by simpa using h) fun i hi => by simpa using ha (i + 1) (by omega)
theorem fndM_hit {c : Int} {l : List Mp} {k : Nat} (h : k < l.length) (ha : ∀ i, i < k → ((l.getD i noMp).f == c) = false) (hk : ((l.getD k noMp).f == c) = true) : fndM c l = (l.getD k noMp, true) := by
  rw [fndM_drop (by omega) ha, List.drop_eq_getElem_cons h, fndM]
  have e : l.getD k noMp = l[k] := by rw [List.getD_eq_getElem?_getD, List.getElem?_eq_getElem h]; rfl
  rw [e] at hk ⊢
  rw [hk]
  rfl
theorem fndM_none {c : Int} {l : List Mp} (ha : ∀ i, i < l.length → ((l.getD i noMp).f == c) = false) : fndM c l = (noMp, false) := by
  rw [fndM_drop (Nat.le_refl _) ha, List.drop_length]
  rfl

theorem sl_nil (k : IntKind) (w : World) : Sl k w (.slice none 0 0) [] := ⟨none, 0, rfl, Nat.le_refl _, by unfold maxLen; omega, .inl rfl⟩
theorem Box.pair {t : TypeId} {a b : Value} {B : Nat} {w : World} (h : Box t [a, b] B w) (x y : Value) : Box t [x, y] B ((w.setCell ⟨B, 0, none⟩ x).setCell ⟨B, 1, none⟩ y) :=
  (h.set 0 x).set 1 y
theorem below_pair {base B : Nat} {a b : Value} {w0 w : World} (h : Below base w0 w) (hB : base ≤ B) : Below base w0 ((w.setCell ⟨B, 0, none⟩ a).setCell ⟨B, 1, none⟩ b) :=
  (h.setCell hB _).setCell hB _
theorem ucdFrom (a : Int) (u : Value) (w : World) : Calls Try.prog 48 #[.agg #[.int .i64 a, u]] w fun e w' => e = .returned (.int .i64 a) ∧ Below w.heap.size w w' := by
  go_enter Try.func48, Try.ntmps48
  go_wp2_with (fail)
  go_ret
  exact ⟨rfl, by (repeat (first | exact Below.refl _ _ | exact below_drewN _ | refine Below.drew ?_ | refine Below.alloc ?_ (by simp) _ | refine Below.setCell ?_ (by simp) _ | refine below_drewN' ?_ _))⟩

set_option maxHeartbeats 2000000 in
theorem ucdFindM (v : Value) (l : List Mp) (c : Int) (w : World) (h : Sm w v l) :
    Calls Try.prog 45 #[.agg #[v, .func (.func 48) #[] #[]], .int .i64 c] w fun e w' =>
      ∃ x, e = .returned (.tuple #[.agg #[.int .i64 (fndM c l).1.f, x], .bool (fndM c l).2]) ∧ Sl .i64 w' x (fndM c l).1.t ∧ Below w.heap.size w w' := by
  have ml := h.len
  obtain ⟨a1, cap1, rfl, q1, -, h1⟩ := h
  obtain ⟨n, hn⟩ : ∃ n, n = l.length := ⟨_, rfl⟩
  obtain ⟨R, hR⟩ : ∃ R, R = fndM c l := ⟨_, rfl⟩
  have hH : ∀ k, k < n → (∀ i, i < k → ((l.getD i noMp).f == c) = false) → ((l.getD k noMp).f == c) = true → R = (l.getD k noMp, true) := fun k hk ha hh => hR.trans (fndM_hit (by omega) ha hh)
  have hN : (∀ i, i < n → ((l.getD i noMp).f == c) = false) → R = (noMp, false) := fun ha => hR.trans (fndM_none (by rw [← hn]; exact ha))
  rw [← hR]
  have HH := hid hH
  have HN := hid hN
  have H1 := hid h1
  rw [← hn] at ml q1 H1 ⊢
  clear hH hN h1 hn hR
  go_enter Try.func45, Try.ntmps45
  go_wp2_with (fail)
  go_loopw [12] (fun iv wr => ∃ k : Nat, k ≤ n ∧ iv = .int .i64 k ∧ Hid (Box 76 [.slice a1 n cap1, .func (.func 48) #[] #[]] w.heap.size wr) ∧ Hid (Box 69 [.int .i64 0, .slice none 0 0] (w.heap.size + 1) wr) ∧ Hid (Below w.heap.size w wr) ∧ Hid (∀ i, i < k → ((l.getD i noMp).f == c) = false)) (fun iv _ => n - (intOf iv).toNat)
  case atStart => exact ⟨0, by omega, rfl, (Box.made w 76 _).alloc _, box_last _ _ _ _, by (repeat (first | exact Below.refl _ _ | exact below_drewN _ | refine Below.drew ?_ | refine Below.alloc ?_ (by simp) _ | refine Below.setCell ?_ (by simp) _ | refine below_drewN' ?_ _)), fun i hi => absurd hi (by omega)⟩
  case round =>
    obtain ⟨k, hk, rfl, hbt, hbr, hbel, hall⟩ := hrel
    have hsz := hbr.out.lt
    by_cases hlt : k < n
    · rcases H1.out with hc | ⟨b1, o1, rfl, hb1, c1⟩
      · omega
      have hb1' := hb1 (by omega)
      obtain ⟨d1, ux, d2, d3⟩ := c1 k hlt
      have d1 := (hbel.out.cell (p := ⟨b1, o1 + k * 2, none⟩) hb1').trans d1
      have d2 := (hbel.out.cell (p := ⟨b1, o1 + k * 2 + 1, none⟩) hb1').trans d2
      have HD := hid d3
      clear d3
      have hh := hid (HH.out k hlt hall.out)
      have HNX := hid (show ((l.getD k noMp).f == c) = false → ∀ i, i < k + 1 → ((l.getD i noMp).f == c) = false from fun he i hi => by
        rcases Nat.lt_or_ge i k with h | h
        · exact hall.out i h
        · obtain rfl : i = k := by omega
          exact he)
      clear c1
      generalize l.getD k noMp = r at d1 d2 HD hh HNX
      obtain ⟨rf, rt⟩ := r
      simp only at d1 d2 HD hh HNX
      obtain ⟨au, cu, hux⟩ := HD.out.form
      obtain ⟨nr, hnr⟩ : ∃ nr, nr = rt.length := ⟨_, rfl⟩
      rw [← hnr] at hux
      subst hux
      clear hnr
      obtain ⟨b, hb⟩ : ∃ b, b = (rf == c) := ⟨_, rfl⟩
      rw [← hb] at hh HNX
      replace hb := hb.symm
      have HBW := hid (show Below wr.heap.size wr (wr.alloc (.cells #[.int .i64 rf, (.slice au nr cu)] 69)) by (repeat (first | exact Below.refl _ _ | exact below_drewN _ | refine Below.drew ?_ | refine Below.alloc ?_ (by simp) _ | refine Below.setCell ?_ (by simp) _ | refine below_drewN' ?_ _)))
      have HNW := hid (Box.made wr 69 [.int .i64 rf, (.slice au nr cu)])
      have HRA := hid (hbr.out.alloc (.cells #[.int .i64 rf, (.slice au nr cu)] 69))
      have HTA := hid (hbt.out.alloc (.cells #[.int .i64 rf, (.slice au nr cu)] 69))
      have x1 := HTA.out.cell 1
      simp only [List.getElem?_cons_zero, List.getElem?_cons_succ] at x1
      cases b with
      | true =>
        have hr := hid (hh.out rfl)
        go_wp2_with (go_at_call 48; refine (ucdFrom rf (.slice au nr cu) _).mono ?_; rintro e wu ⟨rfl, hbu⟩; have HBU := hid (hbel.out.trans ((HBW.out.trans (hbu.mono HBW.out.size)).mono hbel.out.size)); have HRU := hid (HRA.out.below hbu HRA.out.lt); have HNU := hid (HNW.out.below hbu HNW.out.lt); clear hbu; have y2 := HNU.out.cell 0; have y3 := HNU.out.cell 1; have z0 := HRU.out.ice 0; have z1 := HRU.out.ice 1; have w0 := HRU.out.cell 0; have w1 := HRU.out.cell 1; simp only [List.getElem?_cons_zero, List.getElem?_cons_succ] at w0 w1 y2 y3)
        refine bodyPost_ret (results_two rfl rfl (loadMp (HRU.out.pair _ _))) rfl ⟨.slice au nr cu, by rw [hr.out]; rfl, by rw [hr.out]; exact HD.out.below (below_pair HBU.out (by omega)), below_pair HBU.out (by omega)⟩
      | false =>
        have hr := hid (HNX.out rfl)
        go_wp2_with (go_at_call 48; refine (ucdFrom rf (.slice au nr cu) _).mono ?_; rintro e wu ⟨rfl, hbu⟩; have HBU := hid (hbel.out.trans ((HBW.out.trans (hbu.mono HBW.out.size)).mono hbel.out.size)); have HRU := hid (HRA.out.below hbu HRA.out.lt); have HTU := hid (HTA.out.below hbu HTA.out.lt); clear hbu)
        go_roundw
        case rel => exact ⟨k + 1, by omega, by go_num, HTU.out, HRU.out, HBU.out, hr.out⟩
        case measure => simp [intOf]; omega
    · obtain rfl : k = n := by omega
      have hr := hid (HN.out hall.out)
      have z0 := hbr.out.ice 0
      have z1 := hbr.out.ice 1
      have w0 := hbr.out.cell 0
      have w1 := hbr.out.cell 1
      simp only [List.getElem?_cons_zero, List.getElem?_cons_succ] at w0 w1
      have HB3 := hid (below_pair (B := w.heap.size + 1) (a := .int .i64 0) (b := .slice none 0 0) hbel.out (by omega))
      have HR3 := hid (hbr.out.pair (.int .i64 0) (.slice none 0 0))
      go_wp2_with (fail)
      refine bodyPost_ret (results_two rfl rfl (loadMp (HR3.out.alloc _))) rfl ⟨_, by rw [hr.out]; rfl, by rw [hr.out]; exact sl_nil _ _, HB3.out.alloc HB3.out.size _⟩
end Go.Proofs.Ytjiheplifmakpaa

/-! Ref7 -/
namespace Go.Proofs.Ytjiheplifmakpaa
open Go.RowKit

set_option maxHeartbeats 2000000 in
theorem refSplit7 (c : Int) (w : World) (h0 : -9223372036854775808 ≤ c) (h1 : c ≤ 9223372036854775807) : Calls Try.prog 26 #[.int .i64 c] w fun e w' => ∃ x, e = .returned x ∧ Sl .i64 w' x (splitS c) ∧ Below w.heap.size w w' := by
  by_cases hin : 44032 ≤ c ∧ c ≤ 55203
  · obtain ⟨n, rfl⟩ : ∃ n : Nat, c = 44032 + (n : Int) := ⟨(c - 44032).toNat, by omega⟩
    have hn : n ≤ 11171 := by omega
    have HR := hid (splitS_in hn)
    have e1 : (44032 + (n : Int)) - 44032 = (n : Int) := by omega
    have HB := hid (show inB (n : Int) 0 11171 = true from decide_eq_true ⟨by omega, by omega⟩)
    clear hin
    by_cases hm : n % 28 = 0
    · have hm2 : ¬ (0 : Int) < (n : Int) % 28 := by omega
      have HP := hid (show splitS (44032 + (n : Int)) = [4352 + (n : Int) / 588, 4449 + (n : Int) % 588 / 28] by rw [HR.out]; unfold partsN; rw [if_pos hm])
      clear hm
      go_enter Try.func26, Try.ntmps26
      go_wp2_with (go_at_call 40; refine (refIn6 (n : Int) 0 11171 _).mono ?_; rw [HB.out]; rintro e w1 ⟨rfl, rfl⟩)
      go_ret
      exact ⟨_, rfl, by rw [HP.out]; exact lit_sl rfl rfl rfl (by simp), by (repeat (first | exact Below.refl _ _ | exact below_drewN _ | refine Below.drew ?_ | refine Below.alloc ?_ (by simp) _ | refine Below.setCell ?_ (by simp) _ | refine below_drewN' ?_ _))⟩
    · have hm2 : (0 : Int) < (n : Int) % 28 := by omega
      have HP := hid (show splitS (44032 + (n : Int)) = [4352 + (n : Int) / 588, 4449 + (n : Int) % 588 / 28] ++ [4519 + (n : Int) % 28] by rw [HR.out]; unfold partsN; rw [if_neg hm]; rfl)
      clear hm
      go_enter Try.func26, Try.ntmps26
      go_wp2_with (first
        | (go_at_call 40; refine (refIn6 (n : Int) 0 11171 _).mono ?_; rw [HB.out]; rintro e w1 ⟨rfl, rfl⟩)
        | (at_builtin; go_loud (refine wpList_app _ rfl _ _ 22 rfl .i64 w.heap.size 3 8 Try.underlying22 Try.infoI64 _ [4352 + (n : Int) / 588, 4449 + (n : Int) % 588 / 28] [4519 + (n : Int) % 28] rfl (Own.below (lit_own rfl (Nat.le_refl _) rfl rfl (by simp)) (by (repeat (first | exact Below.refl _ _ | exact below_drewN _ | refine Below.drew ?_ | refine Below.alloc ?_ (by simp) _ | refine Below.setCell ?_ (by simp) _ | refine below_drewN' ?_ _)))) _ rfl (one_sl (by first | simp | rfl)) (by unfold maxLen; first | omega | (simp; omega) | simp) (by first | omega | (simp; omega) | simp) (by first | omega | (simp; omega) | simp) ?_); intro v5 w5 ho5 hg5 hb5 hn5; clear hn5 hg5))
      go_ret
      exact ⟨_, rfl, by rw [HP.out]; exact ho5.sl, Below.trans (show Below w.heap.size w _ from by (repeat (first | exact Below.refl _ _ | exact below_drewN _ | refine Below.drew ?_ | refine Below.alloc ?_ (by simp) _ | refine Below.setCell ?_ (by simp) _ | refine below_drewN' ?_ _))) hb5⟩
  · have HR := hid (splitS_out hin)
    have HB := hid (show inB (wrap64 (c - 44032)) 0 11171 = false from decide_eq_false (by unfold wrap64; omega))
    clear hin
    go_enter Try.func26, Try.ntmps26
    go_wp2_with (go_at_call 40; refine (refIn6 (wrap64 (c - 44032)) 0 11171 _).mono ?_; rw [HB.out]; rintro e w1 ⟨rfl, rfl⟩)
    go_ret
    exact ⟨_, rfl, by rw [HR.out]; exact sl_nil _ _, Below.refl _ _⟩

end Go.Proofs.Ytjiheplifmakpaa

/-! Ucd5 -/
namespace Go.Proofs.Ytjiheplifmakpaa
open Go.RowKit

/-- the first place of a number, or -1 -/
def idxL (c : Int) : List Int → Int → Int
  | [], _ => -1
  | x :: l, k => if x == c then k else idxL c l (k + 1)
def inL (c : Int) (l : List Int) : Bool := decide (0 ≤ idxL c l 0)
theorem idxL_drop {c : Int} : ∀ {l : List Int} {k : Nat} {o : Int}, k ≤ l.length → (∀ i, i < k → (l.getD i 0 == c) = false) → idxL c l o = idxL c (l.drop k) (o + (k : Int))
  | _, 0, o, _, _ => by simp
  | [], k + 1, _, h, _ => by simp at h
  | r :: l, k + 1, o, h, ha => by
    have h0 := ha 0 (by omega)
    simp only [List.getD_cons_zero] at h0
    rw [idxL, h0, List.drop_succ_cons, show o + ((k + 1 : Nat) : Int) = o + 1 + (k : Int) by omega]
    exact idxL_drop (by simpa using h) fun i hi => by simpa using ha (i + 1) (by omega)
theorem idxL_hit {c : Int} {l : List Int} {k : Nat} (h : k < l.length) (ha : ∀ i, i < k → (l.getD i 0 == c) = false) (hk : (l.getD k 0 == c) = true) : idxL c l 0 = (k : Int) := by
  rw [idxL_drop (by omega) ha, List.drop_eq_getElem_cons h, idxL]
  have e : l.getD k 0 = l[k] := by rw [List.getD_eq_getElem?_getD, List.getElem?_eq_getElem h]; rfl
  rw [e] at hk
  rw [hk]
  simp
theorem idxL_none {c : Int} {l : List Int} (ha : ∀ i, i < l.length → (l.getD i 0 == c) = false) : idxL c l 0 = -1 := by
  rw [idxL_drop (Nat.le_refl _) ha, List.drop_length]
  rfl

end Go.Proofs.Ytjiheplifmakpaa

/-! Ucd6 -/
namespace Go.Proofs.Ytjiheplifmakpaa
open Go.RowKit

def delS (excl : List Int) (cls : List Rg) (r : Rg) : Bool := r.v == 0 || inL r.f excl || lookS cls r.f != 0 || lookS cls r.t != 0
end Go.Proofs.Ytjiheplifmakpaa

/-! RngMath -/
namespace Go.Proofs.Ytjiheplifmakpaa

theorem packN_at (g : Nat → Int) : ∀ {n k : Nat}, k < n → (packN g n).1.getD k 0 = (packN g k).2.idxOf (blk g k)
  | n + 1, k, h => by
    have hl := (packN_ok g n).len
    rw [packN]
    rcases Nat.lt_or_ge k n with h1 | h1
    · rw [List.getD_eq_getElem?_getD, List.getElem?_append_left (by omega), ← List.getD_eq_getElem?_getD]
      exact packN_at g h1
    · obtain rfl : k = n := by omega
      rw [List.getD_eq_getElem?_getD, List.getElem?_append_right (by omega), hl, Nat.sub_self]
      rfl
/-- the number of blocks met among the first k groups -/
def seenN (g : Nat → Int) (k : Nat) : Nat := (packN g k).2.length
theorem seenN_next (g : Nat → Int) {n k : Nat} (h : k < n) : (packN g n).1.getD k 0 ≤ seenN g k ∧ seenN g (k + 1) = if (packN g n).1.getD k 0 = seenN g k then seenN g k + 1 else seenN g k := by
  rw [packN_at g h]
  unfold seenN
  rw [packN]
  by_cases hm : blk g k ∈ (packN g k).2
  · have hlt := List.idxOf_lt_length_iff.2 hm
    simp only [if_pos hm]
    rw [if_neg (by omega)]
    exact ⟨by omega, rfl⟩
  · have he := List.idxOf_eq_length hm
    simp only [if_neg hm]
    rw [if_pos he]
    exact ⟨by omega, by simp⟩

/-! ### no more than three blocks a range, and one -/
theorem sub_len {α : Type} [DecidableEq α] : ∀ {a b : List α}, a.Nodup → (∀ x ∈ a, x ∈ b) → a.length ≤ b.length
  | [], _, _, _ => Nat.zero_le _
  | x :: a, b, hn, hs => by
    rw [List.nodup_cons] at hn
    have hx := hs x (List.mem_cons_self ..)
    have ih := sub_len (a := a) (b := b.erase x) hn.2 (fun y hy => (List.mem_erase_of_ne (by rintro rfl; exact hn.1 hy)).2 (hs y (List.mem_cons_of_mem _ hy)))
    rw [List.length_erase_of_mem hx] at ih
    have := List.length_pos_of_mem hx
    simp only [List.length_cons]
    omega
def con (v : Int) : List Int := List.replicate 256 v
theorem con_eq {b : List Int} {v : Int} (hl : b.length = 256) (h : ∀ i, i < 256 → b.getD i 0 = v) : b = con v := by
  apply List.ext_getElem
  · rw [hl]; exact List.length_replicate.symm
  · intro i h1 h2
    have := h i (by omega)
    rw [List.getD_eq_getElem?_getD, List.getElem?_eq_getElem h1] at this
    exact this.trans (List.getElem_replicate (h := by rw [List.length_replicate]; omega)).symm
def tabG (l : List Rg) : Nat → Int := fun c => lookS l (c : Int)
theorem blk_kind {l : List Rg} (h : okL (-1) l) (k : Nat) : blk (tabG l) k ∈ con 0 :: (l.map (fun r => con r.v) ++ (l.map (fun r => blk (tabG l) (r.f / 256).toNat) ++ l.map (fun r => blk (tabG l) (r.t / 256).toNat))) := by
  by_cases hz : ∀ i, i < 256 → tabG l (256 * k + i) = 0
  · refine List.mem_cons.2 (.inl ?_)
    exact con_eq (blk_len _ _) fun i hi => by rw [blk_at _ _ _ hi]; exact hz i hi
  · obtain ⟨i, hi⟩ := Classical.not_forall.1 hz
    obtain ⟨hi1, hi2⟩ := Classical.not_imp.1 hi
    obtain ⟨r, hr, h1, h2, h3⟩ := lookS_some hi2
    have hok := okL_mem h hr
    unfold maxS at hok
    refine List.mem_cons.2 (.inr ?_)
    by_cases hf : (256 * k : Int) ≤ r.f ∧ ¬ r.f = 256 * k
    · refine List.mem_append.2 (.inr (List.mem_append.2 (.inl (List.mem_map.2 ⟨r, hr, ?_⟩))))
      rw [show (r.f / 256).toNat = k by omega]
    · by_cases ht : r.t < (256 * k + 255 : Int)
      · refine List.mem_append.2 (.inr (List.mem_append.2 (.inr (List.mem_map.2 ⟨r, hr, ?_⟩))))
        rw [show (r.t / 256).toNat = k by omega]
      · refine List.mem_append.2 (.inl (List.mem_map.2 ⟨r, hr, ?_⟩))
        refine (con_eq (blk_len _ _) fun j hj => ?_).symm
        rw [blk_at _ _ _ hj]
        exact lookS_mem h hr (by omega) (by omega)
theorem pack_small {l : List Rg} (h : okL (-1) l) (n : Nat) : (packN (tabG l) n).2.length ≤ 3 * l.length + 1 := by
  have hk := packN_ok (tabG l) n
  have := sub_len hk.nodup (b := con 0 :: (l.map (fun r => con r.v) ++ (l.map (fun r => blk (tabG l) (r.f / 256).toNat) ++ l.map (fun r => blk (tabG l) (r.t / 256).toNat)))) (fun b hb => by
    obtain ⟨k, _, rfl⟩ := hk.from_ b hb
    exact blk_kind h k)
  rw [List.length_cons, List.length_append, List.length_append, List.length_map, List.length_map, List.length_map] at this
  omega

/-! ### the fewest ranges -/
/-- one number more -/
def rleStep (l : List Rg) (c : Nat) (v : Int) : List Rg :=
  if v = 0 then l else
    match l.getLast? with
    | some r => if r.t = (c : Int) - 1 ∧ r.v = v then l.dropLast ++ [⟨r.f, c, v⟩] else l ++ [⟨c, c, v⟩]
    | none => [⟨c, c, v⟩]
def rle (g : Nat → Int) : Nat → List Rg
  | 0 => []
  | n + 1 => rleStep (rle g n) n (g n)
/-- what is known of the ranges of the first n numbers -/
structure RleOk (g : Nat → Int) (n : Nat) (l : List Rg) : Prop where
  mem : ∀ r ∈ l, 0 ≤ r.f ∧ r.f ≤ r.t ∧ r.t < n ∧ r.v ≠ 0 ∧ (∀ c : Nat, r.f ≤ c → c ≤ r.t → g c = r.v) ∧ (r.f = 0 ∨ g (r.f - 1).toNat ≠ r.v)
  cov : ∀ c : Nat, c < n → g c ≠ 0 → ∃ r ∈ l, r.f ≤ (c : Int) ∧ (c : Int) ≤ r.t
  ord : l.Pairwise fun a b => a.t < b.f
  max : ∀ r ∈ l, r.t + 1 < n → g (r.t + 1).toNat ≠ r.v
theorem last_split {l : List Rg} {r : Rg} (h : l.getLast? = some r) : l = l.dropLast ++ [r] := by
  have hne : l ≠ [] := by rintro rfl; simp at h
  rw [List.getLast?_eq_some_getLast hne] at h
  injection h with h
  rw [← h, List.dropLast_concat_getLast]
theorem rle_ok (g : Nat → Int) : ∀ n, RleOk g n (rle g n)
  | 0 => ⟨fun _ h => (nomatch h), fun _ h => absurd h (by omega), List.Pairwise.nil, fun _ h => (nomatch h)⟩
  | n + 1 => by
    have ih := rle_ok g n
    rw [rle]
    generalize rle g n = l at ih
    unfold rleStep
    by_cases hv : g n = 0
    · rw [if_pos hv]
      refine ⟨fun r hr => ?_, fun c hc hg => ?_, ih.ord, fun r hr h1 => ?_⟩
      · obtain ⟨h1, h2, h3, h4, h5, h6⟩ := ih.mem r hr
        exact ⟨h1, h2, by omega, h4, h5, h6⟩
      · rcases Nat.lt_or_ge c n with h1 | h1
        · exact ih.cov c h1 hg
        · obtain rfl : c = n := by omega
          exact absurd hv hg
      · obtain ⟨k1, k2, k3, k4, k5, k6⟩ := ih.mem r hr
        by_cases h2 : r.t + 1 < n
        · exact ih.max r hr h2
        · have : (r.t + 1).toNat = n := by omega
          rw [this, hv]
          exact fun e => k4 e.symm
    · rw [if_neg hv]
      cases hlast : l.getLast? with
      | none =>
        have hl : l = [] := List.getLast?_eq_none_iff.1 hlast
        subst hl
        refine ⟨fun r hr => ?_, fun c hc hg => ?_, List.pairwise_singleton _ _, fun r hr h1 => ?_⟩
        · simp only [List.mem_singleton] at hr
          subst hr
          refine ⟨by simp, by simp, by simp; omega, hv, fun c h1 h2 => ?_, ?_⟩
          · simp only at h1 h2
            rw [show c = n by omega]
          · rcases Nat.eq_zero_or_pos n with h0 | h0
            · left; simp [h0]
            · right
              simp only
              intro he
              have h1 : g (n - 1) ≠ 0 := by rw [show ((n : Int) - 1).toNat = n - 1 by omega] at he; rw [he]; exact hv
              obtain ⟨r, hr, _⟩ := ih.cov (n - 1) (by omega) h1
              cases hr
        · rcases Nat.lt_or_ge c n with h1 | h1
          · obtain ⟨r, hr, _⟩ := ih.cov c h1 hg
            cases hr
          · exact ⟨_, List.mem_singleton.2 rfl, by simp; omega, by simp; omega⟩
        · simp only [List.mem_singleton] at hr
          subst hr
          simp at h1
      | some r =>
        have hsplit := last_split hlast
        generalize l.dropLast = d at hsplit
        subst hsplit
        clear hlast
        obtain ⟨k1, k2, k3, k4, k5, k6⟩ := ih.mem r (by simp)
        have hord := ih.ord
        rw [List.pairwise_append] at hord
        obtain ⟨o1, _, o3⟩ := hord
        simp only
        by_cases hx : r.t = (n : Int) - 1 ∧ r.v = g n
        · rw [if_pos hx]
          obtain ⟨x1, x2⟩ := hx
          refine ⟨fun s hs => ?_, fun c hc hg => ?_, ?_, fun s hs h1 => ?_⟩
          · rcases List.mem_append.1 hs with hs | hs
            · obtain ⟨h1, h2, h3, h4, h5, h6⟩ := ih.mem s (List.mem_append_left _ hs)
              exact ⟨h1, h2, by omega, h4, h5, h6⟩
            · simp only [List.mem_singleton] at hs
              subst hs
              refine ⟨k1, by simp only; omega, by simp only; omega, hv, fun c h1 h2 => ?_, ?_⟩
              · simp only at h1 h2 ⊢
                rcases Nat.lt_or_ge c n with h3 | h3
                · rw [k5 c h1 (by omega), x2]
                · rw [show c = n by omega]
              · simp only; rw [← x2]; exact k6
          · rcases Nat.lt_or_ge c n with h1 | h1
            · obtain ⟨s, hs, h2, h3⟩ := ih.cov c h1 hg
              rcases List.mem_append.1 hs with hs | hs
              · exact ⟨s, List.mem_append_left _ hs, h2, h3⟩
              · simp only [List.mem_singleton] at hs
                subst hs
                exact ⟨_, List.mem_append_right _ (List.mem_singleton.2 rfl), h2, by simp only; omega⟩
            · exact ⟨_, List.mem_append_right _ (List.mem_singleton.2 rfl), by simp only; omega, by simp only; omega⟩
          · rw [List.pairwise_append]
            exact ⟨o1, List.pairwise_singleton _ _, fun a ha b hb => by
              simp only [List.mem_singleton] at hb
              subst hb
              exact o3 a ha r (by simp)⟩
          · rcases List.mem_append.1 hs with hs | hs
            · have := o3 s hs r (by simp)
              exact ih.max s (List.mem_append_left _ hs) (by omega)
            · simp only [List.mem_singleton] at hs
              subst hs
              simp only at h1
              omega
        · rw [if_neg hx]
          refine ⟨fun s hs => ?_, fun c hc hg => ?_, ?_, fun s hs h1 => ?_⟩
          · rcases List.mem_append.1 hs with hs | hs
            · obtain ⟨h1, h2, h3, h4, h5, h6⟩ := ih.mem s hs
              exact ⟨h1, h2, by omega, h4, h5, h6⟩
            · simp only [List.mem_singleton] at hs
              subst hs
              refine ⟨by simp, by simp, by simp; omega, hv, fun c h1 h2 => ?_, ?_⟩
              · simp only at h1 h2
                rw [show c = n by omega]
              · rcases Nat.eq_zero_or_pos n with h0 | h0
                · left; simp [h0]
                · right
                  simp only
                  rw [show ((n : Int) - 1).toNat = n - 1 by omega]
                  intro he
                  obtain ⟨s, hs, h1, h2⟩ := ih.cov (n - 1) (by omega) (by rw [he]; exact hv)
                  rcases List.mem_append.1 hs with hs | hs
                  · have := o3 s hs r (by simp)
                    omega
                  · simp only [List.mem_singleton] at hs
                    subst hs
                    have := k5 (n - 1) h1 h2
                    exact hx ⟨by omega, by rw [← this, he]⟩
          · rcases Nat.lt_or_ge c n with h1 | h1
            · obtain ⟨s, hs, h2, h3⟩ := ih.cov c h1 hg
              exact ⟨s, List.mem_append_left _ hs, h2, h3⟩
            · exact ⟨_, List.mem_append_right _ (List.mem_singleton.2 rfl), by simp only; omega, by simp only; omega⟩
          · rw [List.pairwise_append]
            exact ⟨ih.ord, List.pairwise_singleton _ _, fun a ha b hb => by
              simp only [List.mem_singleton] at hb
              subst hb
              have := (ih.mem a ha).2.2.1
              simp only
              omega⟩
          · rcases List.mem_append.1 hs with hs | hs
            · by_cases h2 : s.t + 1 < n
              · exact ih.max s hs h2
              · have hst : s.t = (n : Int) - 1 := by have := (ih.mem s hs).2.2.1; omega
                rw [show (s.t + 1).toNat = n by omega]
                rcases List.mem_append.1 hs with hs | hs
                · have := o3 s hs r (by simp)
                  omega
                · simp only [List.mem_singleton] at hs
                  subst hs
                  exact fun e => hx ⟨hst, e.symm⟩
            · simp only [List.mem_singleton] at hs
              subst hs
              simp at h1
/-- it is a right table, where it is not too long -/
theorem rle_flat {g : Nat → Int} {n : Nat} {l : List Rg} (h : RleOk g n l) (hn : (n : Int) ≤ maxS + 1) (hv : ∀ c, c < n → 0 ≤ g c ∧ g c ≤ 65535) : okL (-1) l := by
  have key : ∀ (l : List Rg) (p : Int), (∀ r ∈ l, 0 ≤ r.f ∧ r.f ≤ r.t ∧ r.t < n ∧ 1 ≤ r.v ∧ r.v ≤ 65535 ∧ p < r.f) → l.Pairwise (fun a b => a.t < b.f) → okL p l := by
    intro l
    induction l with
    | nil => intro _ _ _; trivial
    | cons r l ih =>
      intro p h1 h2
      rw [List.pairwise_cons] at h2
      have hr := h1 r (List.mem_cons_self ..)
      refine ⟨?_, ih r.t (fun s hs => ?_) h2.2⟩
      · unfold okR; omega
      · have := h1 s (List.mem_cons_of_mem _ hs)
        have := h2.1 s hs
        omega
  refine key l (-1) (fun r hr => ?_) h.ord
  obtain ⟨h1, h2, h3, h4, h5, _⟩ := h.mem r hr
  have e := h5 r.f.toNat (by omega) (by omega)
  have := hv r.f.toNat (by omega)
  omega
/-- it says the same -/
theorem rle_look {g : Nat → Int} {n : Nat} {l : List Rg} (h : RleOk g n l) (hf : okL (-1) l) {c : Nat} (hc : c < n) : lookS l c = g c := by
  by_cases hz : g c = 0
  · rw [hz]
    by_cases hl : lookS l c = 0
    · exact hl
    · obtain ⟨r, hr, h1, h2, h3⟩ := lookS_some hl
      obtain ⟨_, _, _, h4, h5, _⟩ := h.mem r hr
      exact absurd ((h5 c h1 h2).symm.trans hz) h4
  · obtain ⟨r, hr, h1, h2⟩ := h.cov c hc hz
    obtain ⟨_, _, _, _, h5, _⟩ := h.mem r hr
    rw [lookS_mem hf hr h1 h2, h5 c h1 h2]
/-- no table that says the same has fewer -/
theorem rle_few {g : Nat → Int} {n : Nat} {l m : List Rg} (h : RleOk g n l) (hm : ∀ c : Nat, c < n → lookS m c = g c) (hk : okL (-1) m) : l.length ≤ m.length := by
  have hn : (l.map Rg.f).Nodup := by
    unfold List.Nodup
    rw [List.pairwise_map]
    refine h.ord.imp_of_mem fun {a b} ha hb hab => ?_
    have := (h.mem a ha).2.1
    have := (h.mem b hb).2.1
    omega
  have := sub_len hn (b := m.map Rg.f) (fun x hx => by
    obtain ⟨r, hr, rfl⟩ := List.mem_map.1 hx
    obtain ⟨h1, h2, h3, h4, h5, h6⟩ := h.mem r hr
    have e := h5 r.f.toNat (by omega) (by omega)
    have e2 := hm r.f.toNat (by omega)
    rw [e] at e2
    obtain ⟨s, hs, k1, k2, k3⟩ := lookS_some (l := m) (c := (r.f.toNat : Int)) (by rw [e2]; exact h4)
    have hsv : s.v = r.v := by rw [← k3, e2]
    refine List.mem_map.2 ⟨s, hs, ?_⟩
    rcases h6 with h6 | h6
    · have := (okL_mem hk hs).1
      omega
    · by_cases hlt : s.f < r.f
      · have e3 := hm (r.f - 1).toNat (by omega)
        rw [lookS_mem hk hs (by omega) (by omega), hsv] at e3
        exact absurd e3.symm h6
      · omega)
  simpa using this
end Go.Proofs.Ytjiheplifmakpaa

/-! RngPack -/
namespace Go.Proofs.Ytjiheplifmakpaa

theorem lookS_left : ∀ {a b : List Rg} {c : Int}, (∀ r ∈ b, ¬ (r.f ≤ c ∧ c ≤ r.t)) → lookS (a ++ b) c = lookS a c
  | [], [], _, _ => rfl
  | [], r :: b, c, h => by
    have h0 := h r (List.mem_cons_self ..)
    have e : lookS (r :: b) c = lookS b c := by rw [lookS, if_neg h0]
    rw [List.nil_append, e]
    exact lookS_left (a := []) (fun s hs => h s (List.mem_cons_of_mem _ hs))
  | x :: a, b, c, h => by
    rw [List.cons_append, lookS, lookS, lookS_left h]
theorem lookS_right : ∀ {a b : List Rg} {c : Int}, (∀ r ∈ a, ¬ (r.f ≤ c ∧ c ≤ r.t)) → lookS (a ++ b) c = lookS b c
  | [], _, _, _ => rfl
  | x :: a, b, c, h => by
    rw [List.cons_append, lookS, if_neg (h x (List.mem_cons_self ..))]
    exact lookS_right fun r hr => h r (List.mem_cons_of_mem _ hr)
theorem okL_low : ∀ {l : List Rg} {p : Int}, okL p l → ∀ r ∈ l, p < r.f
  | [], _, _, _, hm => by cases hm
  | x :: l, p, h, r, hm => by
    have hx := h.1
    unfold okR at hx
    rcases List.mem_cons.1 hm with rfl | hm
    · omega
    · have := okL_low h.2 r hm; omega
theorem okL_pair : ∀ {l : List Rg} {p : Int}, okL p l → l.Pairwise fun a b => a.t < b.f
  | [], _, _ => List.Pairwise.nil
  | _ :: _, _, h => List.pairwise_cons.2 ⟨fun r hr => okL_low h.2 r hr, okL_pair h.2⟩
theorem take_rg {l : List Rg} {i : Nat} (h : i < l.length) : l.take (i + 1) = l.take i ++ [l.getD i noRg] := by
  rw [List.take_add_one, List.getD_eq_getElem?_getD, List.getElem?_eq_getElem h]; rfl
theorem mem_take_rg {l : List Rg} {i : Nat} {r : Rg} (h : r ∈ l.take i) : ∃ j, j < i ∧ j < l.length ∧ l.getD j noRg = r := by
  obtain ⟨j, hj, rfl⟩ := List.getElem_of_mem h
  rw [List.length_take] at hj
  exact ⟨j, by omega, by omega, by rw [List.getD_eq_getElem?_getD, List.getElem?_eq_getElem (by omega)]; simp⟩
theorem mem_drop_rg {l : List Rg} {i : Nat} {r : Rg} (h : r ∈ l.drop i) : ∃ j, i ≤ j ∧ j < l.length ∧ l.getD j noRg = r := by
  obtain ⟨j, hj, rfl⟩ := List.getElem_of_mem h
  rw [List.length_drop] at hj
  exact ⟨i + j, by omega, by omega, by rw [List.getD_eq_getElem?_getD, List.getElem?_eq_getElem (by omega)]; simp⟩
theorem rg_pair {l : List Rg} (h : okL (-1) l) {i j : Nat} (hij : i < j) (hj : j < l.length) : (l.getD i noRg).t < (l.getD j noRg).f := by
  have := List.pairwise_iff_getElem.1 (okL_pair h) i j (by omega) hj hij
  rw [List.getD_eq_getElem?_getD, List.getD_eq_getElem?_getD, List.getElem?_eq_getElem (by omega), List.getElem?_eq_getElem hj]
  exact this
theorem rg_ok {l : List Rg} (h : okL (-1) l) {i : Nat} (hi : i < l.length) : 0 ≤ (l.getD i noRg).f ∧ (l.getD i noRg).f ≤ (l.getD i noRg).t ∧ (l.getD i noRg).t ≤ 1114111 ∧ 1 ≤ (l.getD i noRg).v ∧ (l.getD i noRg).v ≤ 65535 := by
  rw [List.getD_eq_getElem?_getD, List.getElem?_eq_getElem hi]
  exact okL_mem h (List.getElem_mem hi)
theorem pk_start {l : List Rg} {a : Nat} {b c : Int} (h : ∀ j, j < a → (l.getD j noRg).t < b) (hc : b ≤ c) : lookS (l.take a) c = 0 := by
  have := lookS_right (a := l.take a) (b := []) (c := c) fun r hr => by
    obtain ⟨j, hj, _, rfl⟩ := mem_take_rg hr
    have := h j hj
    omega
  rw [List.append_nil] at this
  rw [this]
  rfl
theorem pk_hit {l : List Rg} (h : okL (-1) l) {i : Nat} (hi : i < l.length) {c : Int} (hc : (l.getD i noRg).f ≤ c ∧ c ≤ (l.getD i noRg).t) : lookS (l.take (i + 1)) c = (l.getD i noRg).v := by
  rw [take_rg hi, lookS_right fun r hr => by
    obtain ⟨j, hj, _, rfl⟩ := mem_take_rg hr
    have := rg_pair h hj hi
    omega]
  rw [lookS, if_pos hc]
theorem pk_miss {l : List Rg} {i : Nat} (hi : i < l.length) {c : Int} (hc : ¬ ((l.getD i noRg).f ≤ c ∧ c ≤ (l.getD i noRg).t)) : lookS (l.take (i + 1)) c = lookS (l.take i) c := by
  rw [take_rg hi]
  exact lookS_left fun r hr => by
    simp only [List.mem_singleton] at hr
    subst hr
    exact hc
theorem pk_end {l : List Rg} (h : okL (-1) l) {i : Nat} {b c : Int} (hi : i = l.length ∨ b ≤ (l.getD i noRg).f) (hc : c < b) : lookS (l.take i) c = lookS l c := by
  have e : lookS (l.take i ++ l.drop i) c = lookS (l.take i) c := lookS_left fun r hr => by
    obtain ⟨j, hj, hjl, rfl⟩ := mem_drop_rg hr
    rcases hi with hi | hi
    · omega
    · rcases Nat.lt_or_ge i j with h1 | h1
      · have := rg_pair h h1 hjl
        have := rg_ok h (show i < l.length by omega)
        omega
      · obtain rfl : i = j := by omega
        omega
  rw [List.take_append_drop] at e
  exact e.symm

/-- a row of numbers as cells -/
def iv (ys : List Int) : List Value := ys.map (Value.int .i64)
theorem iv_len (ys : List Int) : (iv ys).length = ys.length := by simp [iv]
theorem iv_at {ys : List Int} {i : Nat} (h : i < ys.length) : (iv ys)[i]? = some (.int .i64 (ys.getD i 0)) := by
  simp [iv, List.getD_eq_getElem?_getD, List.getElem?_eq_getElem h]
theorem iv_set (ys : List Int) (i : Nat) (v : Int) : (iv ys).set i (.int .i64 v) = iv (ys.set i v) := by simp [iv, List.map_set]
theorem set_getD {ys : List Int} {i j : Nat} {v : Int} (h : i < ys.length) : (ys.set i v).getD j 0 = if j = i then v else ys.getD j 0 := by
  simp only [List.getD_eq_getElem?_getD, List.getElem?_set]
  by_cases hij : i = j
  · subst hij; simp [h]
  · rw [if_neg hij, if_neg (fun e => hij e.symm)]
theorem con_len (v : Int) : (con v).length = 256 := List.length_replicate
theorem con_at {v : Int} {i : Nat} (h : i < 256) : (con v).getD i 0 = v := by
  rw [List.getD_eq_getElem?_getD, List.getElem?_eq_getElem (by rw [con_len]; exact h)]
  exact List.getElem_replicate _
theorem blk_eq {g : Nat → Int} {k : Nat} {ys : List Int} (hl : ys.length = 256) (h : ∀ j, j < 256 → ys.getD j 0 = g (256 * k + j)) : ys = blk g k := by
  apply List.ext_getElem (by rw [hl, blk_len])
  intro i h1 h2
  have := h i (by omega)
  rw [← blk_at g k i (by omega), List.getD_eq_getElem?_getD, List.getD_eq_getElem?_getD, List.getElem?_eq_getElem h1, List.getElem?_eq_getElem h2] at this
  exact this
/-- searching the blocks one by one -/
theorem idx_found {bs : List (List Int)} {b : List Int} {q : Nat} (hq : q < bs.length) (hb : bs.getD q [] = b) (hn : ∀ i, i < q → bs.getD i [] ≠ b) : bs.idxOf b = q := by
  have hm : b ∈ bs := by
    rw [← hb, List.getD_eq_getElem?_getD, List.getElem?_eq_getElem hq]
    exact List.getElem_mem hq
  have h1 := List.idxOf_lt_length_iff.2 hm
  have h2 : bs.getD (bs.idxOf b) [] = b := by
    rw [List.getD_eq_getElem?_getD, List.getElem?_eq_getElem h1]; simp
  rcases Nat.lt_trichotomy (bs.idxOf b) q with h | h | h
  · exact absurd h2 (hn _ h)
  · exact h
  · have h3 : b ∈ bs.take (q + 1) := by
      rw [List.take_add_one, List.getElem?_eq_getElem hq]
      refine List.mem_append_right _ ?_
      rw [List.getD_eq_getElem?_getD, List.getElem?_eq_getElem hq] at hb
      simp only [Option.getD_some] at hb
      simp [hb]
    have h4 : bs.idxOf b = (bs.take (q + 1)).idxOf b := by
      conv => lhs; rw [← List.take_append_drop (q + 1) bs]
      rw [List.idxOf_append, if_pos h3]
    have h5 := List.idxOf_lt_length_iff.2 h3
    rw [List.length_take] at h5
    omega
theorem idx_none {bs : List (List Int)} {b : List Int} (hn : ∀ i, i < bs.length → bs.getD i [] ≠ b) : b ∉ bs := fun hm => by
  have h1 := List.idxOf_lt_length_iff.2 hm
  refine hn _ h1 ?_
  rw [List.getD_eq_getElem?_getD, List.getElem?_eq_getElem h1]
  simp
theorem pack_next {g : Nat → Int} {k : Nat} (h : blk g k ∉ (packN g k).2) : (packN g (k + 1)).1 = (packN g k).1 ++ [(packN g k).2.length] ∧ (packN g (k + 1)).2 = (packN g k).2 ++ [blk g k] := by
  rw [packN]
  exact ⟨by rw [List.idxOf_eq_length h], by rw [if_neg h]⟩
theorem pack_same {g : Nat → Int} {k : Nat} (h : blk g k ∈ (packN g k).2) : (packN g (k + 1)).1 = (packN g k).1 ++ [(packN g k).2.idxOf (blk g k)] ∧ (packN g (k + 1)).2 = (packN g k).2 := by
  rw [packN]
  exact ⟨rfl, by rw [if_pos h]⟩
theorem nats_snoc (l : List Nat) (n : Nat) : nats (l ++ [n]) = nats l ++ [(n : Int)] := by simp [nats]
theorem flatten_snoc (bs : List (List Int)) (b : List Int) : (bs ++ [b]).flatten = bs.flatten ++ b := by simp
end Go.Proofs.Ytjiheplifmakpaa
