/- Contract of package oid's writer of an identifier's content: Content answers the content's bytes in new memory, or why there are none. -/
import Derived.Test.YtihbgpgiladfkaaDoorOid2
import Derived.Test.YtihbgpgiladfkaaDoorTail
namespace Go.Proofs.YtihbgpgiladfkaaDoor
open Go.RowKit

def contX (xs : List Int) : List Int := if oidOk xs = true then contentS xs else []
theorem groups_snoc (xs : List Int) (x : Int) : groups (xs ++ [x]) = groups xs ++ sept x.toNat := by simp [groups]
theorem sept_len9 {x : Int} (h0 : 0 ≤ x) (h1 : x ≤ maxN) : (sept x.toNat).length ≤ 9 := by
  unfold maxN at h1
  have := septHi_le 8 (x.toNat / 128) (by omega)
  simp [sept]; omega
theorem groups_len : ∀ (xs : List Int), (∀ x ∈ xs, 0 ≤ x ∧ x ≤ maxN) → (groups xs).length ≤ 9 * xs.length
  | [], _ => by simp [groups]
  | x :: r, h => by
    have h1 := sept_len9 (h x (List.mem_cons_self ..)).1 (h x (List.mem_cons_self ..)).2
    have h2 := groups_len r fun y hy => h y (List.mem_cons_of_mem _ hy)
    rw [groups_cons]
    simp; omega

theorem oidContent (v : Value) (xs : List Int) (w : World) (h : Sl .i64 w v xs) (hi : I64 xs) :
    Calls Tryd.prog 8 #[v] w fun e w' => ∃ v', e = .returned (.tuple #[v', .int .i64 (chk xs)]) ∧ Own .u8 5 w.heap.size w' v' (contX xs) ∧ Below w.heap.size w w' := by
  cases hok : oidOk xs with
  | false =>
    have H := hid h
    have hc := chk_bad hok
    obtain ⟨a, cap, ha, -, -, -⟩ := h
    have hx : contX xs = [] := by simp [contX, hok]
    rw [hx, hc]
    have HC := hid hc
    clear hx hc hok
    subst ha
    go_enter Tryd.func8, Tryd.ntmps8
    go_wp2_with (go_at_call 16; refine (oidCheck _ xs _ H.out hi).mono ?_; rw [HC.out]; rintro e w' ⟨rfl, n, rfl⟩)
    go_ret2
    exact ⟨_, rfl, Own.nil _ _ _ _, below_drewN _⟩
  | true =>
    match xs, h, hi, hok with
    | a :: b :: r, h, hi, hok =>
      have hc := chk_ok hok
      obtain ⟨⟨h1, h2, h3, h4, h5, h6⟩, h7⟩ := (oidOk_iff a b r).1 hok
      have hcx : contX (a :: b :: r) = groups ((40 * a + b) :: r) := by simp [contX, hok, contentS]
      rw [hcx, hc]
      have HC := hid hc
      have H := hid h
      have H7 := hid h7
      clear hcx hc hok h7
      unfold maxN at h6
      obtain ⟨ad, cap, rfl, q, qm, h⟩ := h
      rcases h with rfl | ⟨bb, o, rfl, hbb, c⟩
      · simp at q
      simp only [List.length_cons] at q hbb c H ⊢
      have d0 := c 0 (by omega)
      have d1 := c 1 (by omega)
      have C := hid c
      clear c
      simp only [Nat.add_zero, List.getD_cons_zero, List.getD_cons_succ] at d0 d1
      obtain ⟨len, hlen⟩ : ∃ len, len = r.length + 1 + 1 := ⟨_, rfl⟩
      rw [← hlen] at C H q hbb ⊢
      have HB := hid (hbb (by omega))
      clear hbb
      have g40 : len ≤ 40 := by rw [hlen]; clear q; omega
      have g3 : (0 : Int) < (len : Int) := by omega
      have g5 : 0 < len := by omega
      have g6 : 1 < len := by omega
      have HL := hid hlen
      clear hlen
      have g4 : (1 : Int) < (len : Int) := by omega
      obtain ⟨m, hm⟩ : ∃ m, m = 40 * a + b := ⟨_, rfl⟩
      have q1 : IntKind.i64.wrap (40 * a) = 40 * a := by rw [IntKind.wrap_i64]; omega
      have q2 : IntKind.i64.wrap (40 * a + b) = m := by rw [IntKind.wrap_i64]; omega
      have m0 : 0 ≤ m := by omega
      have m1 : m ≤ maxN := by unfold maxN; omega
      rw [← hm]
      clear hm h4
      obtain ⟨v3, hc1, hc2, hc3⟩ := cut_all w 22 3 Tryd.underlying22 Tryd.infoI64 .i64 (.slice (some ⟨bb, o, none⟩) len cap) (a :: b :: r) H.out (some (.int .i64 2)) none 2 (r.length + 1 + 1) (.inr ⟨_, rfl⟩) (.inl ⟨rfl, rfl⟩) (by omega) (by simp)
      have hs3 : Sl .i64 w v3 r := by
        have := hc3 w H.out
        rwa [show (2 : Nat) = 1 + 1 from rfl, List.drop_succ_cons, List.drop_succ_cons, List.drop_zero, show r.length + 1 + 1 - (1 + 1) = r.length by omega, List.take_length] at this
      clear hc3
      obtain ⟨a3, c3, rfl, q3, -, h3⟩ := hs3
      have H3 := hid h3
      clear h3
      obtain ⟨rl, hrl⟩ : ∃ rl, rl = r.length := ⟨_, rfl⟩
      rw [← hrl] at h1 q3 H3 hc1 hc2
      have HR := hid hrl
      clear hrl
      go_enter Tryd.func8, Tryd.ntmps8
      go_wp2_with (go_at_call 16; refine (oidCheck _ (a :: b :: r) _ H.out hi).mono ?_; rw [HC.out]; rintro e w' ⟨rfl, n, rfl⟩)
      (refine region_tail 8 (by kernel_rfl) (by kernel_rfl) ?_; simp only [List.take_succ_cons, List.take_zero, List.drop_succ_cons, List.drop_zero]; repeat still_step)
      refine wpStill_nil ?_
      have HN := hid ((below_drewN n).drew : Below w.heap.size w (w.drewN n).drew)
      generalize (w.drewN n).drew = w1 at HN ⊢
      have hz1 := HN.out.size
      go_wp2_with (first
        | (go_at_call 21; refine (oidAppend _ [] m w.heap.size w1 (Own.nil _ _ _ _) hz1 m0 m1 (by simp)).mono ?_; rintro e w2 ⟨v2, rfl, ho2, hb2⟩; have HO2 := hid ho2; have HB2 := hid (HN.out.trans hb2); have hz2 := HB2.out.size; clear ho2))
      go_loopw [5, 25] (fun bv iv wr => ∃ (k : Nat), k ≤ rl ∧ iv = .int .i64 k ∧ Hid (Own .u8 5 w.heap.size wr bv (groups (m :: r.take k))) ∧ Hid (Below w.heap.size w wr) ∧ w.heap.size ≤ wr.heap.size) (fun _ iv _ => rl - (intOf iv).toNat)
      case atStart => exact ⟨0, by omega, rfl, by have := HO2.out; simpa [groups, Hid] using this, HB2.out, hz2⟩
      case round =>
        obtain ⟨k, hk, rfl, hown, hbel, hsz⟩ := hrel
        by_cases hlt : k < rl
        · rcases H3.out with hc0 | ⟨b3, o3, ha3, hb3, c3'⟩
          · omega
          · subst ha3
            obtain ⟨x, hx⟩ : ∃ x, x = r.getD k 0 := ⟨_, rfl⟩
            have dk := (hbel.out.cell (p := ⟨b3, o3 + k, none⟩) (hb3 (by omega))).trans (c3' k hlt)
            rw [← hx] at dk
            have hkr : k < r.length := by rw [← HR.out]; exact hlt
            have hxm : x ∈ r := by rw [hx, List.getD_eq_getElem?_getD, List.getElem?_eq_getElem hkr]; exact List.getElem_mem hkr
            have htk : r.take (k + 1) = r.take k ++ [x] := by rw [List.take_add_one, hx, List.getD_eq_getElem?_getD, List.getElem?_eq_getElem hkr]; rfl
            obtain ⟨x0, x1⟩ := H7.out x hxm
            have HT := hid htk
            have hgl := groups_len (m :: r.take k) (fun y hy => by
              rcases List.mem_cons.1 hy with rfl | hy
              · exact ⟨m0, m1⟩
              · exact H7.out y (List.mem_of_mem_take hy))
            simp only [List.length_cons, List.length_take] at hgl
            have hgl2 : (groups (m :: r.take k)).length ≤ 1000000 := by omega
            clear hx hkr hxm htk hgl
            go_wp2_with (first
              | (go_at_call 21; refine (oidAppend _ (groups (m :: r.take k)) x w.heap.size wr hown.out hsz x0 x1 hgl2).mono ?_; rintro e w3 ⟨v3, rfl, ho3, hb3'⟩))
            have hz3 := hb3'.size
            go_roundw
            case rel => exact ⟨k + 1, by omega, by go_num, by rw [HT.out, ← List.cons_append, groups_snoc]; exact ho3, hbel.out.trans hb3', by omega⟩
            case measure => simp [intOf]; omega
        · obtain rfl : k = rl := by omega
          go_wp2_with (fail)
          go_ret2
          refine ⟨_, rfl, ?_, hbel.out⟩
          have := hown.out
          rwa [HR.out, List.take_length] at this
end Go.Proofs.YtihbgpgiladfkaaDoor
