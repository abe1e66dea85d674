/- Contract of the document's own content of an identifier: its bytes in new memory. -/
import Derived.Test.YtihbgpgiladfkaaDoorRefOid1
import Derived.Test.YtihbgpgiladfkaaDoorOid3
import Derived.Test.YtihbgpgiladfkaaDoorRefSept
namespace Go.Proofs.YtihbgpgiladfkaaDoor
open Go.RowKit

set_option maxHeartbeats 1000000 in
theorem refContent (v : Value) (xs : List Int) (w : World) (h : Sl .i64 w v xs) (hok : oidOk xs = true) :
    Calls Tryd.prog 19 #[v] w fun e w' => ∃ v', e = .returned v' ∧ Own .u8 5 w.heap.size w' v' (contentS xs) ∧ Below w.heap.size w w' := by
  match xs, h, hok with
  | a :: b :: r, h, hok =>
    obtain ⟨⟨h1, h2, h3, h4, h5, h6⟩, h7⟩ := (oidOk_iff a b r).1 hok
    have H7 := hid h7
    clear hok h7
    unfold maxN at h6
    obtain ⟨ad, cap, rfl, q, qm, h⟩ := h
    rcases h with rfl | ⟨bb, o, rfl, hbb, c⟩
    · simp at q
    simp only [List.length_cons] at q hbb c ⊢
    have d0 := c 0 (by omega)
    have d1 := c 1 (by omega)
    have C := hid c
    clear c
    simp only [Nat.add_zero, List.getD_cons_zero, List.getD_cons_succ] at d0 d1
    obtain ⟨len, hlen⟩ : ∃ len, len = r.length + 1 + 1 := ⟨_, rfl⟩
    rw [← hlen] at C q hbb ⊢
    have hbb' := hbb (by omega)
    clear hbb
    have g40 : len ≤ 40 := by rw [hlen]; clear q; omega
    have g5 : 0 < len := by omega
    have g6 : 1 < len := by omega
    have g3 : (0 : Int) < (len : Int) := by omega
    have g4 : (1 : Int) < (len : Int) := by omega
    have HL := hid hlen
    clear hlen q
    obtain ⟨m, hm⟩ : ∃ m, m = 40 * a + b := ⟨_, rfl⟩
    have q1 : IntKind.i64.wrap (40 * a) = 40 * a := by rw [IntKind.wrap_i64]; omega
    have q2 : IntKind.i64.wrap (40 * a + b) = m := by rw [IntKind.wrap_i64]; omega
    have m0 : 0 ≤ m := by omega
    have m1 : m ≤ 9223372036854775807 := by omega
    have HCS : Hid (contentS (a :: b :: r) = groups (m :: r)) := hid (by rw [hm]; rfl)
    clear hm h4
    go_enter Tryd.func19, Tryd.ntmps19
    go_wp2_with (fail)
    (refine region_tail 8 (by kernel_rfl) (by kernel_rfl) ?_; simp only [List.take_succ_cons, List.take_zero, List.drop_succ_cons, List.drop_zero]; repeat still_step)
    refine wpStill_nil ?_
    have HN := hid ((Below.refl w.heap.size w).drew)
    generalize w.drew = w1 at HN ⊢
    have hz1 := HN.out.size
    go_wp2_with (first
      | (go_at_call 29; refine (refSept m w1 m0 m1).mono ?_; rintro e w2 ⟨v2, rfl, ho2, hb2⟩; have HO2 := hid (ho2.mono hz1); have HB2 := hid (HN.out.trans (hb2.mono hz1)); have hz2 := HB2.out.size; clear ho2))
    go_loopw [3, 4] (fun bv iv wr => ∃ (k : Nat), 2 ≤ k ∧ k ≤ len ∧ iv = .int .i64 k ∧ Hid (Own .u8 5 w.heap.size wr bv (groups (m :: r.take (k - 2)))) ∧ Hid (Below w.heap.size w wr) ∧ w.heap.size ≤ wr.heap.size) (fun _ iv _ => len - (intOf iv).toNat)
    case atStart => exact ⟨2, by omega, by omega, rfl, (by have := HO2.out; simpa [groups, Hid] using this), HB2.out, hz2⟩
    case round =>
      obtain ⟨k, hk2, hk, rfl, hown, hbel, hsz⟩ := hrel
      by_cases hlt : k < len
      · obtain ⟨x, hx⟩ : ∃ x, x = (a :: b :: r).getD k 0 := ⟨_, rfl⟩
        have dk := (hbel.out.cell (p := ⟨bb, o + k, none⟩) hbb').trans (C.out k hlt)
        rw [← hx] at dk
        obtain ⟨j, hj⟩ : ∃ j, k = j + 2 := ⟨k - 2, by omega⟩
        have hjr : j < r.length := by have := HL.out; omega
        have hxr : x = r.getD j 0 := by rw [hx, hj]; rfl
        have hxm : x ∈ r := by rw [hxr, List.getD_eq_getElem?_getD, List.getElem?_eq_getElem hjr]; exact List.getElem_mem hjr
        have htk : r.take (k + 1 - 2) = r.take (k - 2) ++ [x] := by rw [show k + 1 - 2 = j + 1 by omega, show k - 2 = j by omega, List.take_add_one, hxr, List.getD_eq_getElem?_getD, List.getElem?_eq_getElem hjr]; rfl
        obtain ⟨x0, x1⟩ := H7.out x hxm
        have HT := hid htk
        have hgl := groups_len (m :: r.take (k - 2)) (fun y hy => by
          rcases List.mem_cons.1 hy with rfl | hy
          · exact ⟨m0, m1⟩
          · exact H7.out y (List.mem_of_mem_take hy))
        simp only [List.length_cons, List.length_take] at hgl
        have hgl2 : (groups (m :: r.take (k - 2))).length ≤ 1000000 := by omega
        have hsl := sept_len9 x0 x1
        have HJ := hid hj
        clear hx hjr hxm htk hgl hxr hj
        unfold maxN at x1
        obtain ⟨G, hG⟩ : ∃ G, G = groups (m :: r.take (k - 2)) := ⟨_, rfl⟩
        obtain ⟨S, hS⟩ : ∃ S, S = sept x.toNat := ⟨_, rfl⟩
        rw [← hG] at hown hgl2
        rw [← hS] at hsl
        have HG := hid hG
        have HS := hid hS
        clear hG hS
        go_wp2_with (first
          | (go_at_call 29; refine (refSept x wr x0 x1).mono ?_; rw [← HS.out]; rintro e w3 ⟨v3, rfl, ho3, hb3⟩; have HO3 := hid ho3; have HB3 := hid hb3; have hz3 := hb3.size; have HOW := hid (hown.out.below hb3))
          | (at_builtin; go_loud (refine wpList_app _ rfl _ _ 23 rfl .u8 w.heap.size 5 1 Tryd.underlying23 Tryd.infoU8 _ G S rfl HOW.out _ rfl HO3.out.sl (by unfold maxLen; first | omega | (simp; omega)) (by first | omega | (simp; omega) | simp) (by first | omega | (simp; omega) | simp) ?_); intro v5 w5 ho5 hg5 hb5 hn5))
        have hz5 := hb5.size
        go_roundw
        case rel => exact ⟨k + 1, by omega, by omega, by go_num, (by rw [HT.out, ← List.cons_append, groups_snoc, ← HG.out, ← HS.out]; exact ho5), hbel.out.trans ((HB3.out.mono hsz).trans hb5), by omega⟩
        case measure => simp [intOf]; omega
      · obtain rfl : k = len := by omega
        go_wp2_with (fail)
        go_ret
        refine ⟨_, rfl, ?_, hbel.out⟩
        have := hown.out
        rw [HCS.out]
        rwa [List.take_of_length_le (by have := HL.out; omega)] at this
end Go.Proofs.YtihbgpgiladfkaaDoor
