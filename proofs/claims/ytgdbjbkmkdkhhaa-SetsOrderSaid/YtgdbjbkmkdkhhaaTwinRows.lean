/- Contract of the helper that copies rows of bytes: a copy in new memory, each row in a block of its own. -/
import Derived.Test.YtgdbjbkmkdkhhaaGrid3
import Derived.Test.YtgdbjbkmkdkhhaaTwin
namespace Go.Proofs.Ytgdbjbkmkdkhhaa
open Go.RowKit

set_option maxHeartbeats 1000000 in
theorem keepTwinRows (v : Value) (xss : List (List Int)) (w : World) (h : Rws w v xss) (hl : xss.length ≤ 1000000) (hr : ∀ xs ∈ xss, xs.length ≤ 1000000) :
    Calls Try.prog 8 #[v] w fun e w' => ∃ v', e = .returned v' ∧ OwnRowsD 23 5 w.heap.size w' v' xss ∧ Below w.heap.size w w' := by
  obtain ⟨vs1, l1, s1, r1⟩ := h
  obtain ⟨a1, cap1, rfl, q1, m1, h1⟩ := s1
  rw [l1] at q1 h1 ⊢
  obtain ⟨len, hlen⟩ : ∃ len, len = xss.length := ⟨_, rfl⟩
  have hT : ∀ k, k < len → xss.take (k + 1) = xss.take k ++ [xss.getD k []] := fun k hk => by
    rw [List.take_add_one, List.getD_eq_getElem?_getD, List.getElem?_eq_getElem (by omega)]; rfl
  have hR : ∀ k, k < len → (xss.getD k []).length ≤ 1000000 := fun k hk => hr _ (by
    rw [List.getD_eq_getElem?_getD, List.getElem?_eq_getElem (by omega)]; exact List.getElem_mem _)
  have hA : xss.take len = xss := List.take_of_length_le (by omega)
  have hTL : ∀ k, k ≤ len → (xss.take k).length = k := fun k hk => by rw [List.length_take]; omega
  have HT := hid hT
  have HR := hid hR
  have HA := hid hA
  have HTL := hid hTL
  clear hT hR hA hTL hr
  rw [← hlen] at q1 h1 r1 hl ⊢
  clear hlen l1 m1
  rcases Nat.eq_zero_or_pos len with h0 | h0
  · subst h0
    clear h1 r1 q1
    go_enter Try.func8, Try.ntmps8
    go_wp2
    go_loopw [3, 4] (fun o i wr => o = .slice none 0 0 ∧ i = .int .i64 0 ∧ wr = w) (fun _ _ _ => 0)
    case atStart => exact ⟨rfl, rfl, rfl⟩
    case round =>
      obtain ⟨rfl, rfl, rfl⟩ := hrel
      go_wp2
      go_ret
      exact ⟨_, rfl, by rw [← HA.out, List.take_zero]; exact OwnRowsD.nil _ _ _ _, Below.refl _ _⟩
  · rcases h1 with hc | ⟨b1, o1, rfl, hb1, c1⟩
    · omega
    have hb1' := hb1 h0
    clear q1 hb1
    have C1 := hid c1
    have R1 := hid r1
    clear c1 r1
    go_enter Try.func8, Try.ntmps8
    go_wp2
    go_loopw [3, 4] (fun ov iv wr => ∃ (k : Nat), k ≤ len ∧ iv = .int .i64 k ∧ Hid (OwnRowsD 23 5 w.heap.size wr ov (xss.take k)) ∧ Hid (Below w.heap.size w wr) ∧ w.heap.size ≤ wr.heap.size) (fun _ iv _ => len - (intOf iv).toNat)
    case atStart => exact ⟨0, by omega, rfl, by rw [List.take_zero]; exact OwnRowsD.nil _ _ _ _, Below.refl _ _, Nat.le_refl _⟩
    case round =>
      obtain ⟨k, hk, rfl, hown, hbel, hsz⟩ := hrel
      by_cases hlt : k < len
      · have dk := (hbel.out.cell (p := ⟨b1, o1 + k, none⟩) hb1').trans (C1.out k hlt)
        have ek := hid ((R1.out k hlt).below hbel.out)
        have hxl := HR.out k hlt
        have ht := HT.out k hlt
        have hac := HTL.out k hk
        obtain ⟨X, hX⟩ : ∃ X, X = xss.getD k [] := ⟨_, rfl⟩
        obtain ⟨acc, hacc⟩ : ∃ acc, acc = xss.take k := ⟨_, rfl⟩
        rw [← hX] at ek hxl ht
        rw [← hacc] at ht hac hown
        have HTk := hid ht
        clear hX hacc ht
        generalize vs1.getD k undef = uk at dk ek
        go_wp2_with (first
          | (go_at_call 21; refine (keepTwin uk X wr ek.out (by omega)).mono ?_; rintro e w4 ⟨v4, rfl, ho4, hb4⟩; have HO4 := hid ho4; have HB4 := hid hb4; have hz4 := hb4.size; clear ho4 hb4; obtain ⟨a4, c4, hv4⟩ := HO4.out.sl.form; generalize X.length = n4 at hv4; subst hv4)
          | (at_builtin; refine wpList_appRowD _ rfl _ _ 22 rfl w.heap.size 23 5 (by decide) 24 Try.underlying22 Try.infoRow wr (HB4.out.trans (by (repeat (first | exact Below.refl _ _ | exact below_drewN _ | refine Below.drew ?_ | refine Below.alloc ?_ (by first | omega | (simp; done) | (simp; omega)) _ | refine Below.setCell ?_ (by first | (simp; done) | (simp; omega)) _ | refine below_drewN' ?_ _)))) _ acc rfl hown.out w4.heap.size (.slice a4 n4 c4) X rfl (by rw [cell_of_row _ w4.heap.size 0 #[.slice a4 n4 c4] 23 (0, 0) (heap_alloc_new w4 _)]; rfl) (HO4.out.alloc _) (by unfold maxLen; omega) (by omega) hsz ?_; intro v6 w6 hr6 hb6; have HR6 := hid hr6; have HB6 := hid (hbel.out.trans ((HB4.out.mono hsz).trans (Below.trans (by (repeat (first | exact Below.refl _ _ | exact below_drewN _ | refine Below.drew ?_ | refine Below.alloc ?_ (by first | omega | (simp; done) | (simp; omega)) _ | refine Below.setCell ?_ (by first | (simp; done) | (simp; omega)) _ | refine below_drewN' ?_ _))) hb6))); have hz6 := hb6.size; clear hr6 hb6; simp at hz6))
        go_roundw
        case rel => exact ⟨k + 1, by omega, by go_num, by rw [HTk.out]; exact HR6.out, HB6.out, by omega⟩
        case measure => simp [intOf]; omega
      · obtain rfl : k = len := by omega
        go_wp2_with (fail)
        go_ret
        exact ⟨_, rfl, by rw [HA.out] at hown; exact hown.out, hbel.out⟩

end Go.Proofs.Ytgdbjbkmkdkhhaa
