/- Contract of package ranges' join: the numbers of blocks, one block behind the other. -/
import Derived.Test.YtlngnmcflooccaaBlkOps
import Derived.Test.YtlngnmcflooccaaKeepInts
namespace Go.Proofs.Ytlngnmcflooccaa
open Go.RowKit Go.Maps

theorem take_block {bs : List (List Int)} {i : Nat} (h : i < bs.length) : bs.take (i + 1) = bs.take i ++ [bs.getD i []] := by
  rw [List.take_add_one, List.getD_eq_getElem?_getD, List.getElem?_eq_getElem h]; rfl
theorem take_num {xs : List Int} {i : Nat} (h : i < xs.length) : xs.take (i + 1) = xs.take i ++ [xs.getD i 0] := by
  rw [List.take_add_one, List.getD_eq_getElem?_getD, List.getElem?_eq_getElem h]; rfl

set_option maxHeartbeats 4000000 in
set_option maxRecDepth 100000 in
theorem rngJoin (v : Value) (bs : List (List Int)) (base : Nat) (w : World) (h : w.ownsRow base 52 256 v bs.length (uv bs.flatten)) (he : ∀ b ∈ bs, B16 b) (hn : bs.length ≤ 5000) :
    Calls Try.prog 23 #[v] w fun e w' => ∃ v', e = .returned v' ∧ Own .i64 3 w.heap.size w' v' bs.flatten ∧ Below w.heap.size w w' := by
  have HR := hid (fun i (hi : i < bs.length) => row_block h (fun b hb => (he b hb).1) hi)
  obtain ⟨av, cv, rfl⟩ := row_form h
  obtain ⟨n, hnn⟩ : ∃ n, n = bs.length := ⟨_, rfl⟩
  have HE := hid he
  have HN := hid hnn
  rw [← hnn] at hn ⊢
  obtain ⟨c, hc⟩ : ∃ c, c = n * 256 := ⟨_, rfl⟩
  have wc : (n : Int) * 256 = (c : Int) := by omega
  obtain ⟨i0, hi0, hz0, hz1, hz2⟩ := info_parts Try.infoI64
  obtain ⟨w1, hmk, hown1, hg1⟩ := run_make_own (P := Try.prog) w w.heap.size 23 3 i0 (.int .i64 0) 1 Try.underlying23 hi0 hz0 hz1 .i64 .i64 c (by rw [hz2]; omega) (by unfold maxLen; omega) (Nat.le_refl _)
  have HO1 : Hid (Own .i64 3 w.heap.size w1 (.slice (some ⟨w.heap.size, 0, none⟩) 0 c) []) := hid hown1
  have HB1 : Hid (Below w.heap.size w w1) := hid ((Below.refl w.heap.size w).grown hg1 (Nat.le_refl _) (fun k hk => by cases hk))
  clear h he hnn hc hown1 hg1
  go_enter Try.func23, Try.ntmps23
  go_wp2_with (fail)
  clear wc hmk
  go_loopw [3, 13] (fun sv iv_ wr => ∃ i : Nat, i ≤ n ∧ iv_ = .int .i64 i ∧ Hid (Own .i64 3 w.heap.size wr sv (bs.take i).flatten) ∧ Hid (Below w.heap.size w wr)) (fun _ iv_ _ => n - (intOf iv_).toNat)
  case atStart => exact ⟨0, by omega, rfl, HO1.out, HB1.out⟩
  case round =>
    obtain ⟨i, hi, rfl, hown, hbel⟩ := hrel
    by_cases hlt : i < n
    · obtain ⟨g, cap, hgv, hgl, hra⟩ := HR.out i (by rw [← HN.out]; exact hlt)
      rw [← HN.out] at hgv
      injection hgv with hgv _ hgc
      subst hgv hgc
      have hmem : bs.getD i [] ∈ bs := by
        rw [List.getD_eq_getElem?_getD, List.getElem?_eq_getElem (by rw [← HN.out]; exact hlt)]
        exact List.getElem_mem _
      have hra2 : Hid (wr.rangeAt g (i * 256) (uv (bs.getD i []))) := hid (fun j u hj => (hbel.out.cell (p := ⟨g, i * 256 + j, none⟩) hgl).trans (hra j u hj))
      have HBI := hid (HE.out _ hmem)
      have HTI := hid (take_block (bs := bs) (i := i) (by rw [← HN.out]; exact hlt))
      obtain ⟨b, hb⟩ : ∃ b, b = bs.getD i [] := ⟨_, rfl⟩
      rw [← hb] at hra2 HBI HTI
      have hil : decide (i < n) = true := decide_eq_true hlt
      have hil' : decide ((i : Int) < (n : Int)) = true := decide_eq_true (by omega)
      have hfl : Hid ((bs.take i).flatten.length = 256 * i) := hid (by
        rw [flat_len (fun b hb => (HE.out b (List.mem_of_mem_take hb)).1), List.length_take]
        have := HN.out
        omega)
      clear hb hmem hra
      have hsz := hbel.out.size
      go_wp2_with (refine list_at rfl (exec_loadM rfl rfl hra2.out (by rw [uv_len]; exact HBI.out.1)) ?_)
      go_loopw [3, 20] (fun tv jv wr => ∃ j : Nat, j ≤ 256 ∧ jv = .int .i64 j ∧ Hid (Own .i64 3 w.heap.size wr tv ((bs.take i).flatten ++ b.take j)) ∧ Hid (Below w.heap.size w wr)) (fun _ jv _ => 256 - (intOf jv).toNat)
      case atStart => exact ⟨0, by omega, rfl, by rw [List.take_zero, List.append_nil]; exact hown.out, hbel.out⟩
      case round =>
        obtain ⟨j, hj, rfl, hoj, hbj⟩ := hrel
        have hsj := hbj.out.size
        by_cases hjt : j < 256
        · have hjb : j < b.length := by rw [HBI.out.1]; exact hjt
          have hu := hid (uv_at hjb)
          have hx := HBI.out.2 (b.getD j 0) (by
            rw [List.getD_eq_getElem?_getD, List.getElem?_eq_getElem hjb]
            exact List.getElem_mem _)
          have htn := hid (take_num hjb)
          obtain ⟨x, hxx⟩ : ∃ x, x = b.getD j 0 := ⟨_, rfl⟩
          rw [← hxx] at hu hx htn
          have hwx : IntKind.i64.wrap x = x := by rw [IntKind.wrap_i64]; omega
          have hlen : Hid (((bs.take i).flatten ++ b.take j).length = 256 * i + j) := hid (by
            rw [List.length_append, hfl.out, List.length_take, HBI.out.1]
            omega)
          clear hxx hjb
          go_wp2_with (first
            | (refine list_at rfl (exec_elem rfl rfl rfl hjt hu.out) ?_)
            | (at_builtin; go_loud (refine wpList_app _ rfl _ _ 23 rfl .i64 w.heap.size 3 8 Try.underlying23 Try.infoI64 _ ((bs.take i).flatten ++ b.take j) [x] rfl (hoj.out.below (by (repeat (first | exact Below.refl _ _ | exact below_drewN _ | refine Below.drew ?_ | refine Below.alloc ?_ (by first | omega | (simp; done) | (simp; omega)) _ | refine Below.setCell ?_ (by first | (simp; done) | (simp; omega)) _ | refine below_drewN' ?_ _)))) _ rfl (one_sl (by first | simp | rfl)) (by have := hlen.out; unfold maxLen; simp only [List.length_cons, List.length_nil]; omega) (by have := hlen.out; simp only [List.length_cons, List.length_nil]; omega) (by simp; omega) ?_); intro v6 w6 ho6 hg6 hb6 hn6; have HO6 := hid ho6; have HB6 := hid (Below.trans (show Below w.heap.size wr _ from by (repeat (first | exact Below.refl _ _ | exact below_drewN _ | refine Below.drew ?_ | refine Below.alloc ?_ (by first | omega | (simp; done) | (simp; omega)) _ | refine Below.setCell ?_ (by first | (simp; done) | (simp; omega)) _ | refine below_drewN' ?_ _))) hb6); clear ho6 hg6 hb6 hn6))
          go_roundw
          case rel => exact ⟨j + 1, by omega, by go_num, by rw [htn.out, ← List.append_assoc]; exact HO6.out, hbj.out.trans HB6.out⟩
          case measure => simp [intOf]; omega
        · obtain rfl : j = 256 := by omega
          have hfin := hid (show (bs.take i).flatten ++ b.take 256 = (bs.take (i + 1)).flatten by rw [HTI.out, flatten_snoc, show b.take 256 = b from List.take_of_length_le (Nat.le_of_eq HBI.out.1)])
          go_wp2_with (fail)
          go_roundw
          case rel => exact ⟨i + 1, by omega, by go_num, by rw [← hfin.out]; exact hoj.out, hbj.out⟩
          case measure => simp [intOf]; omega
    · obtain rfl : i = n := by omega
      have hfin := hid (show (bs.take i).flatten = bs.flatten by rw [HN.out, List.take_length])
      go_wp2_with (fail)
      go_ret
      exact ⟨_, rfl, by rw [← hfin.out]; exact hown.out, hbel.out⟩
end Go.Proofs.Ytlngnmcflooccaa
