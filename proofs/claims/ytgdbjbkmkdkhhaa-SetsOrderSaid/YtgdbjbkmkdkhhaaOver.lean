/- Contract of the helper that writes over a byte string: of all that was there, it changes that row alone. -/
import Derived.Test.YtgdbjbkmkdkhhaaKeep
namespace Go.Proofs.Ytgdbjbkmkdkhhaa
open Go.RowKit

theorem grow_set1 {a w : World} {B : Nat} (h : a.grownBy w (some B)) (j : Nat) (v : Value) : a.grownBy (w.setCell ⟨B, j, none⟩ v) (some B) := by
  have k : w.grownBy (w.setCell ⟨B, j, none⟩ v) (some B) := ⟨rfl, rfl, rfl, by simp [World.setCell], fun i _ hn => Below.heap_setCell _ _ _ _ (fun e => hn (by rw [e]))⟩
  exact ⟨k.os.trans h.os, k.tape.trans h.tape, k.output.trans h.output, Nat.le_trans h.size k.size, fun i hi hn => (k.block i (Nat.lt_of_lt_of_le hi h.size) hn).trans (h.block i hi hn)⟩

theorem keepOver {te base : Nat} (v : Value) (xs : List Int) (w : World) (h : Own .u8 te base w v xs) :
    Calls Try.prog 18 #[v] w fun e w' => e = .returned (.tuple #[]) ∧ w.grownBy w' v.ownBlock := by
  obtain ⟨hxl, hcase⟩ := h
  rcases hcase with ⟨rfl, hn⟩ | ⟨g, cap, cur, rfl, hb, hg, hnc, hcm, hcs, ht⟩
  · clear hxl
    obtain rfl : xs = [] := by simpa using hn
    go_enter Try.func18, Try.ntmps18
    go_wp2
    go_loopw [2] (fun i wr => i = .int .i64 0 ∧ wr = w) (fun i _ => 0)
    case atStart => exact ⟨rfl, rfl⟩
    case round =>
      obtain ⟨rfl, rfl⟩ := hrel
      go_wp2
      go_end0
      exact ⟨rfl, rfl, rfl, rfl, Nat.le_refl _, fun _ _ _ => rfl⟩
  · have hm : xs.length ≤ 9223372036854775807 := by unfold maxLen at hcm; omega
    have hbox : Box te cur.toList g w := by unfold Box; simpa using hg
    have hcell : ∀ i, i < xs.length → cur.toList[i]? = some (.int .u8 (xs.getD i 0)) := by
      intro i hi
      have e : (cur.toList.take (xs.length * 1))[i]? = (xs.map (Value.int .u8))[i]? := by rw [ht]
      rw [List.getElem?_take, if_pos (by omega), List.getElem?_map, List.getElem?_eq_getElem hi] at e
      rw [e, List.getD_eq_getElem?_getD, List.getElem?_eq_getElem hi]
      rfl
    obtain ⟨n, hnl⟩ : ∃ n, n = xs.length := ⟨_, rfl⟩
    rw [← hnl] at hcell hm ⊢
    have HC := hid hcell
    have HB := hid hbox
    clear hcell hbox ht hcs hg hxl hnc hcm hnl hb
    obtain ⟨c0, hc0⟩ : ∃ c0, c0 = cur.toList := ⟨_, rfl⟩
    rw [← hc0] at HC HB
    clear hc0
    go_enter Try.func18, Try.ntmps18
    go_wp2
    go_loopw [2] (fun iv wr => ∃ (k : Nat) (cs : List Value), k ≤ n ∧ iv = .int .i64 k ∧ Hid (Box te cs g wr) ∧ Hid (∀ i, k ≤ i → cs[i]? = c0[i]?) ∧ Hid (w.grownBy wr (some g))) (fun iv _ => n - (intOf iv).toNat)
    case atStart => exact ⟨0, c0, by omega, rfl, HB.out, fun _ _ => rfl, rfl, rfl, rfl, Nat.le_refl _, fun _ _ _ => rfl⟩
    case round =>
      obtain ⟨k, cs, hk, rfl, hbx, hrest, hgr⟩ := hrel
      by_cases hlt : k < n
      · have d0 := hbx.out.cell k
        rw [hrest.out k (Nat.le_refl _), HC.out k hlt] at d0
        have dz := hbx.out.ice k
        generalize xs.getD k 0 = x at d0
        have h0 : 0 + k = k := by omega
        go_wp2
        go_roundw
        case rel => exact ⟨k + 1, cs.set k _, by omega, by go_num, hbx.out.set k _, fun i hi => by rw [List.getElem?_set_ne (by omega)]; exact hrest.out i (by omega), grow_set1 hgr.out k _⟩
        case measure => simp [intOf]; omega
      · go_wp2
        go_end0
        exact ⟨rfl, hgr.out⟩
end Go.Proofs.Ytgdbjbkmkdkhhaa
