/- Several texts in one: Dec8d. -/
import Derived.Test.YtdncmdpacidgmaaPk27
/-! Dec8d -/
namespace Go.Proofs.Ytdncmdpacidgmaa
open Go.RowKit Go.Shelf
attribute [local go_sem] Oper.semAt_some

theorem wideD (m : Nat) : Fence.wide.depth.isSome = true → 1 ≤ m := fun h => by cases h

set_option maxRecDepth 100000 in
set_option maxHeartbeats 2000000 in
theorem valuesGives (f : Int → List Int) (M B n₀ b : Nat) (xs : List Int) :
    GivesM Try.prog 65 #[.pointer (some ⟨b, 0, none⟩)] f M B n₀ 22 (fun W => StV (FreeOf B 22 W) W b xs) xs := by
  intro m l J W hJ hY h0 hSt hM
  obtain ⟨v, hv, hb, hs⟩ := hSt
  have hc0 := hv.cell
  obtain ⟨a, cap, hvf⟩ := hs.1.form
  subst hvf
  have hlen := hs.1.len
  obtain ⟨n, hn⟩ : ∃ n, n = xs.length := ⟨_, rfl⟩
  have HN := hid hn
  have HS := hid hs
  have HH := hid (show xs.take n = xs from by rw [hn, List.take_length])
  have HYY := hid hY
  have HTK := hid (fun j (hj : j < n) => (show xs.take (j + 1) = xs.take j ++ [xs.getD j 0] from by
    have e : xs.getD j 0 = xs[j]'(by omega) := by rw [List.getD_eq_getElem?_getD, List.getElem?_eq_getElem (by omega)]; rfl
    rw [e, List.take_succ_eq_append_getElem (by omega)]))
  rw [← hn] at hlen hc0
  clear hY hs hn hb hJ
  refine callsIn_of_wp Try.func65 rfl trivial ?_ rfl
  simp only [Try.ntmps65, List.size_toArray, List.length_cons, List.length_nil, Nat.reduceAdd, Nat.reduceSub, Array.replicate_succ, Array.replicate_zero, List.push_toArray, List.append_toArray, List.nil_append, List.cons_append]
  gi_wp2
  gi_loopw [7] (fun iv wr => ∃ j : Nat, j ≤ n ∧ iv = .int .i64 j ∧ Hid (J (xs.take j) wr) ∧ Hid (MemB f M B n₀ 22 wr) ∧ Hid (SlZ (FreeOf B 22 wr) wr (.slice a n cap) xs)) (fun iv _ => n - (intOf iv).toNat)
  case atStart => exact ⟨0, by omega, rfl, h0, hM, by show SlZ _ _ _ _; rw [HN.out]; exact HS.out⟩
  case round =>
    obtain ⟨j, hj, rfl, hJj, hMj, hSj⟩ := hrel
    by_cases hlt : j < n
    · have hsl := hSj.out.1
      obtain ⟨a2, c2, hv2, hq2, -, h2⟩ := hsl
      injection hv2 with e1 e2 e3
      subst e1 e3
      rcases h2 with hc | ⟨b1, o1, rfl, hbb, hc⟩
      · have := HN.out
        omega
      have d1 := hc j (by have := HN.out; omega)
      have HTK2 := hid (HTK.out j hlt)
      have HY2 := HYY.out m (xs.take j) (xs.getD j 0) wr hJj.out hMj.out (by rw [List.length_take]; have := HN.out; omega)
      clear hc hbb HTK hq2 e2 HYY
      generalize xs.getD j 0 = y at d1 HTK2 HY2
      obtain ⟨fn, tmps, assign, body, hy, hR⟩ := HY2
      gi_wp2_with ((try refine ⟨wideD _, ?_⟩); refine (round_anyDepth rfl hR).mono ?_; clear hR; rintro e W2 ⟨rfl, hJ2, hk2⟩; have HJ2 := hid hJ2; have HK2 := hid hk2; clear hJ2 hk2)
      go_roundw
      case rel => exact ⟨j + 1, by omega, by go_num, by show J _ _; rw [HTK2.out]; exact HJ2.out, hMj.out.kr HK2.out, hSj.out.move HK2.out.1.1.size (fun b hb => HK2.out.free hMj.out.box hb)⟩
      case measure => simp [intOf]; omega
    · obtain rfl : j = n := by omega
      gi_wp2
      exact bodyPost_end (results_none rfl _ _ _) rfl ⟨⟨_, rfl⟩, by rw [← HH.out]; exact hJj.out, hMj.out⟩
end Go.Proofs.Ytdncmdpacidgmaa
