/- Contracts of package utf8: Put and Get. No conditions. -/
import Derived.Test.YtajncbohgialaaaUtf13b
import Derived.Test.YtajncbohgialaaaUcd1
import Derived.Test.YtajncbohgialaaaRef13c
import Derived.Test.YtajncbohgialaaaU8Ok
namespace Go.Proofs.Ytajncbohgialaaa
open Go.RowKit

set_option maxHeartbeats 4000000 in
theorem utfPut (v : Value) (s : List Int) (w : World) (hs : Sl .i64 w v s) (hl : s.length ≤ 100000) : Calls Try.prog 9 #[v] w fun e w' =>
    ∃ x, e = .returned (.tuple #[x, .int .i64 (outAt (putU s)), .int .i64 (outE 14 (putU s))]) ∧ Own .u8 5 w.heap.size w' x (outL (putU s)) ∧ Below w.heap.size w w' := by
  obtain ⟨a1, cap1, rfl, q1, -, h1⟩ := hs
  obtain ⟨n, hn⟩ : ∃ n, n = s.length := ⟨_, rfl⟩
  have HN := hid hn
  have H1 := hid h1
  rw [← hn] at q1 hl ⊢
  clear h1 hn
  go_enter Try.func9, Try.ntmps9
  go_wp2
  go_loopw [2, 9] (fun bv iv wr => ∃ (j : Nat) (x : List Int), j ≤ n ∧ iv = .int .i64 j ∧ Hid (Own .u8 5 w.heap.size wr bv x) ∧ Hid (Below w.heap.size w wr) ∧ Hid (putU (s.take j) = .inl x) ∧ x.length ≤ 4 * j) (fun _ iv _ => n - (intOf iv).toNat)
  case atStart => exact ⟨0, [], by omega, rfl, Own.nil _ _ _ _, Below.refl _ _, by show putU (s.take 0) = _; rfl, by simp⟩
  case round =>
    obtain ⟨j, x, hj, rfl, hown, hbel, hput, hxl⟩ := hrel
    by_cases hlt : j < n
    · rcases H1.out with hcc | ⟨b1, o1, rfl, hb1, hc⟩
      · omega
      have hb1' := hb1 (by have := HN.out; omega)
      have d1 := (hbel.out.cell (p := ⟨b1, o1 + j, none⟩) hb1').trans (hc j (by have := HN.out; omega))
      obtain ⟨p1, p2⟩ := put_part (by have := HN.out; omega) hput.out
      clear hc hb1 hb1'
      generalize s.getD j 0 = c at d1 p1 p2
      cases hsc : scalarB c with
      | false =>
        have HSC := hid hsc
        have HP := hid (p1 hsc)
        clear p1 p2 hsc
        go_wp2_with (go_at_call 20; refine (ucdScalar c _).mono ?_; rw [HSC.out]; rintro e w1 ⟨rfl, rfl⟩)
        go_ret3
        exact ⟨_, by rw [HP.out]; rfl, by rw [HP.out]; exact Own.nil .u8 5 _ _, hbel.out⟩
      | true =>
        have HSC := hid hsc
        have HP := hid (p2 hsc)
        clear p1 p2 hsc
        have hel := u8enc_len c
        have HX := hid (show (x ++ u8enc c).length = x.length + (u8enc c).length by simp)
        go_wp2_with (first
          | (go_at_call 20; refine (ucdScalar c _).mono ?_; rw [HSC.out]; rintro e w1 ⟨rfl, rfl⟩)
          | (go_at_call 21; refine (utfAppend _ x c w.heap.size _ HSC.out hown.out hbel.out.size (by omega)).mono ?_; rintro e w1 ⟨v1, rfl, ho1, hb1⟩; have HO5 := hid ho1; have HB5 := hid (hbel.out.trans hb1); clear ho1 hb1))
        go_roundw
        case rel => exact ⟨j + 1, x ++ u8enc c, by omega, by go_num, HO5.out, HB5.out, HP.out, by rw [HX.out]; omega⟩
        case measure => simp [intOf]; omega
    · obtain rfl : j = n := by omega
      have HP := hid (show putU s = .inl x by rw [← hput.out, HN.out, List.take_length])
      go_wp2
      go_ret3
      exact ⟨_, by rw [HP.out]; rfl, by rw [HP.out]; exact hown.out, hbel.out⟩
theorem utfPutOk : UPutOk := fun v s w hs _ hl => (utfPut v s w hs hl).mono fun _ _ ⟨x, h1, h2, h3⟩ => ⟨x, h1, h2.sl, h3⟩

set_option maxHeartbeats 4000000 in
theorem utfGet (HO : UOneOk) (v : Value) (b : List Int) (w : World) (hs : Sl .u8 w v b) (hu : U8 b) (hl : b.length ≤ 1000000) : Calls Try.prog 10 #[v] w fun e w' =>
    ∃ x, e = .returned (.tuple #[x, .int .i64 (outAt (getU b)), .int .i64 (outE 11 (getU b))]) ∧ Own .i64 3 w.heap.size w' x (outL (getU b)) ∧ Below w.heap.size w w' := by
  have HS := hid hs
  obtain ⟨a1, cap1, hv⟩ := hs.form
  obtain ⟨n, hn⟩ : ∃ n, n = b.length := ⟨_, rfl⟩
  have HN := hid hn
  rw [← hn] at hv hl
  subst hv
  clear hn hs
  go_enter Try.func10, Try.ntmps10
  go_wp2
  go_loopw [2, 3, 5, 6] (fun sv iv _ _ wr => ∃ (j : Nat) (t : List Int), j ≤ n ∧ iv = .int .i64 j ∧ Hid (Own .i64 3 w.heap.size wr sv t) ∧ Hid (Below w.heap.size w wr) ∧ Hid (getU b = goOn t j (getU (b.drop j))) ∧ t.length ≤ j) (fun _ iv _ _ _ => n - (intOf iv).toNat)
  case atStart => exact ⟨0, [], by omega, rfl, Own.nil _ _ _ _, Below.refl _ _, by show _ = goOn [] 0 (getU (b.drop 0)); rw [List.drop_zero]; cases getU b <;> simp [goOn], by simp⟩
  case round =>
    obtain ⟨j, t, hj, rfl, hown, hbel, hgot, htl⟩ := hrel
    by_cases hlt : j < n
    · have hud : U8 (b.drop j) := fun x hx => hu x (List.mem_of_mem_drop hx)
      have hld : (b.drop j).length ≤ 1000000 := by rw [List.length_drop]; have := HN.out; omega
      obtain ⟨p, hp⟩ : ∃ p, p = u8one (b.drop j) := ⟨_, rfl⟩
      obtain ⟨c, k⟩ := p
      have hle : k ≠ 0 → k ≤ n - j := fun hk => by
        have := (enc_one hud hp.symm hk).2.2
        rw [List.length_drop] at this
        have := HN.out
        omega
      have HG := hid (got_part (by have := HN.out; omega) hgot.out c k hp.symm)
      have HP := hid hp
      have HLD := hid hld
      clear hld
      by_cases hk : k = 0
      · have HR := hid (HG.out.1 hk)
        clear hle hp
        go_wp2_with (first
          | (with_reducible refine at_from ?_; refine wpList_from _ rfl _ _ 23 rfl .u8 5 1 Try.underlying23 Try.infoU8 (.slice a1 n cap1) b rfl (HS.out.below hbel.out) .i64 (j : Int) rfl (by omega) (by have := HN.out; omega) ?_; rw [Int.toNat_natCast]; intro v3 hv3; have HV3 := hid hv3; clear hv3)
          | (go_at_call 11; refine (HO _ _ _ HV3.out hud HLD.out).mono ?_; rw [← HP.out]; rintro e w1 ⟨rfl, hb1⟩; have HB1 := hid (hbel.out.trans (hb1.mono hbel.out.size)); clear hb1))
        go_ret3
        exact ⟨_, by rw [HR.out]; rfl, by rw [HR.out]; exact Own.nil .i64 3 _ _, HB1.out⟩
      · have HR := hid (HG.out.2 hk)
        have hkk := hle hk
        have hk0 : 0 < k := by omega
        have HX := hid (show (t ++ [c]).length = t.length + 1 by simp)
        clear hle hp
        go_wp2_with (first
          | (with_reducible refine at_from ?_; refine wpList_from _ rfl _ _ 23 rfl .u8 5 1 Try.underlying23 Try.infoU8 (.slice a1 n cap1) b rfl (HS.out.below hbel.out) .i64 (j : Int) rfl (by omega) (by have := HN.out; omega) ?_; rw [Int.toNat_natCast]; intro v3 hv3; have HV3 := hid hv3; clear hv3)
          | (go_at_call 11; refine (HO _ _ _ HV3.out hud HLD.out).mono ?_; rw [← HP.out]; rintro e w1 ⟨rfl, hb1⟩; have HB1 := hid (hbel.out.trans (hb1.mono hbel.out.size)); have HW1 := hid (hown.out.below hb1); clear hb1)
          | (at_builtin; go_loud (refine wpList_app _ rfl _ _ 22 rfl .i64 w.heap.size 3 8 Try.underlying22 Try.infoI64 _ t [c] rfl (HW1.out.alloc _) _ rfl (one_sl (by first | simp | rfl)) (by unfold maxLen; simp; omega) (by simp; omega) (by have := HB1.out.size; simp; omega) ?_); intro v5 w5 ho5 hg5 hb5 hn5; have HO5 := hid ho5; have HB5 := hid ((HB1.out.alloc HB1.out.size _).trans hb5); clear ho5 hg5 hb5 hn5))
        go_roundw
        case rel => exact ⟨j + k, t ++ [c], by omega, by go_num, HO5.out, HB5.out, HR.out, by rw [HX.out]; omega⟩
        case measure => simp [intOf]; omega
    · obtain rfl : j = n := by omega
      have HP := hid (got_end (by have := hgot.out; rw [HN.out] at this; exact this))
      go_wp2
      go_ret3
      exact ⟨_, by rw [HP.out]; rfl, by rw [HP.out]; exact hown.out, hbel.out⟩
end Go.Proofs.Ytajncbohgialaaa
