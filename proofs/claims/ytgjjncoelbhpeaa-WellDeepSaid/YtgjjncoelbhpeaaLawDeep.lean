/- Nested as deep as may be is well formed; one deeper is not, told where the deepest one begins: the walk of the statement. For every input. -/
import Derived.Test.YtgjjncoelbhpeaaLawForms
import Derived.Test.YtgjjncoelbhpeaaRef3
namespace Go.Proofs.Ytgjjncoelbhpeaa
open Go.RowKit

/-- n values, one inside the other -/
def nest (c t : Int) : Nat → List Int
  | 0 => []
  | n + 1 => wrapL c t true (nest c t n)
/-- the bytes of the headers of the i outermost -/
def hsum (c t : Int) : Nat → Nat → Nat
  | 0, _ => 0
  | _ + 1, 0 => 0
  | i + 1, n + 1 => hdN c t true (nest c t n).length + hsum c t i n

/-- the classes and tags of what is nested -/
def NestOk (c t : Int) : Prop := (c = 0 ∧ t = 16) ∨ (1 ≤ c ∧ c ≤ 3 ∧ t = 5)
theorem NestOk.bd {c t : Int} (h : NestOk c t) : 0 ≤ c ∧ c ≤ 3 ∧ 0 ≤ t ∧ t ≤ 100 := by unfold NestOk at h; omega

section
variable {c t : Int}

theorem nest_facts (h : NestOk c t) : ∀ n, n ≤ 1000 → (nest c t n).length ≤ 12 * n ∧ U8 (nest c t n)
  | 0, _ => ⟨by simp [nest], U8.nil⟩
  | n + 1, hn => by
    obtain ⟨h1, h2⟩ := nest_facts h n (by omega)
    have hbd := h.bd
    have hok : HdOk ⟨c, t, true, (nest c t n).length, 0⟩ := ⟨⟨by dsimp only; omega, by dsimp only; omega⟩, ⟨by dsimp only; omega, by dsimp only; omega⟩, ⟨by dsimp only; omega, by dsimp only; omega⟩⟩
    have := hdN_bd hok h2
    exact ⟨by show (wrapL c t true _).length ≤ _; rw [wrap_len]; omega, wrap_u8 hok h2⟩
theorem nest_ok (h : NestOk c t) (n : Nat) (hn : n ≤ 1000) : HdOk ⟨c, t, true, (nest c t n).length, 0⟩ := by
  have := (nest_facts h n hn).1
  have hbd := h.bd
  exact ⟨⟨by dsimp only; omega, by dsimp only; omega⟩, ⟨by dsimp only; omega, by dsimp only; omega⟩, ⟨by dsimp only; omega, by dsimp only; omega⟩⟩
theorem nest_head (h : NestOk c t) (n : Nat) (hn : n ≤ 1000) : headE (nest c t (n + 1)) = 0 := by
  show headE (wrapL c t true _) = 0
  rw [wrap_head (nest_ok h n hn)]
  rcases h with ⟨rfl, rfl⟩ | ⟨h1, h2, rfl⟩
  · rfl
  · rw [if_neg (by omega), if_neg (by have : c ≠ 0 := (by omega); simp [rightS, this])]
theorem nest_pos (h : NestOk c t) (n : Nat) (hn : n ≤ 1000) : 2 ≤ (nest c t (n + 1)).length ∧ nest c t (n + 1) ≠ [] := by
  have h1 := (hdN_bd (nest_ok h n hn) (nest_facts h n hn).2).1
  have h2 : (nest c t (n + 1)).length = hdN c t true (nest c t n).length + (nest c t n).length := wrap_len
  exact ⟨by omega, fun h0 => by rw [h0] at h2; simp at h2; omega⟩

theorem nest_list (h : NestOk c t) : ∀ (k n : Nat), n ≤ 1000 → listW (valW k) (nest c t n) = if n ≤ k then ⟨0, (nest c t n).length, n⟩ else ⟨6, hsum c t k n, 0⟩
  | k, 0, _ => by rw [show nest c t 0 = [] from rfl, listW_nil, if_pos (by omega)]; rfl
  | 0, n + 1, hn => by
    rw [listW_err (nest_pos h n (by omega)).2 (by simp [valW]), if_neg (by omega)]; rfl
  | k + 1, n + 1, hn => by
    have hp := nest_pos h n (by omega)
    have ih := nest_list h k n (by omega)
    have hv : valW (k + 1) (nest c t (n + 1)) = _ := wrap_in (nest_ok h n (by omega)) (nest_head h n (by omega)) k
    rw [ih] at hv
    by_cases hnk : n ≤ k
    · rw [if_pos hnk, if_neg (by simp)] at hv
      rw [listW_on hp.2 (by rw [hv]) (by rw [hv]; exact (show 0 < (nest c t (n + 1)).length by omega)), hv, if_pos (by omega)]
      show joinW (nest c t (n + 1)).length (n + 1) (listW _ ((nest c t (n + 1)).drop (nest c t (n + 1)).length)) = _
      rw [List.drop_length, listW_nil]
      simp [joinW]
    · rw [if_neg hnk, if_pos (show (6 : Int) ≠ 0 by decide)] at hv
      rw [listW_err hp.2 (by rw [hv]; exact (show (6 : Int) ≠ 0 by decide)), hv, if_neg (by omega)]
      rfl

theorem nest_well (h : NestOk c t) (n : Nat) (hn : n ≤ 1000) : wellS (nest c t (n + 1)) = if n + 1 ≤ 32 then ⟨0, 0, n + 1⟩ else ⟨6, hsum c t 32 (n + 1), 0⟩ := by
  have hv : valW 32 (nest c t (n + 1)) = _ := wrap_in (nest_ok h n hn) (nest_head h n hn) 31
  rw [nest_list h 31 n hn] at hv
  by_cases hnk : n ≤ 31
  · rw [if_pos hnk, if_neg (by simp)] at hv
    rw [if_pos (by omega)]
    exact wellS_of hv rfl
  · rw [if_neg hnk, if_pos (show (6 : Int) ≠ 0 by decide)] at hv
    rw [if_neg (by omega)]
    exact wellS_bad hv (by decide)

theorem nest_rd (h : NestOk c t) (n : Nat) (hn : n ≤ 1000) : rd (nest c t (n + 1)) = (⟨c, t, true, (nest c t n).length, (hdN c t true (nest c t n).length : Nat)⟩, 0) := wrap_rd (nest_ok h n hn)
theorem hsum_succ : ∀ (i n : Nat), i < n → hsum c t (i + 1) n = hsum c t i n + hdN c t true (nest c t (n - i - 1)).length
  | 0, 0, h => absurd h (by omega)
  | 0, n + 1, _ => by simp [hsum]
  | i + 1, 0, h => absurd h (by omega)
  | i + 1, n + 1, h => by
    have := hsum_succ i n (by omega)
    show hdN c t true (nest c t n).length + hsum c t (i + 1) n = hdN c t true (nest c t n).length + hsum c t i n + _
    rw [this, show n + 1 - (i + 1) - 1 = n - i - 1 by omega]
    omega
theorem hsum_drop : ∀ (i n : Nat), i ≤ n → (nest c t n).drop (hsum c t i n) = nest c t (n - i)
  | 0, n, _ => by simp [hsum]
  | i + 1, 0, h => absurd h (by omega)
  | i + 1, n + 1, h => by
    show (wrapL c t true (nest c t n)).drop (hdN c t true (nest c t n).length + hsum c t i n) = _
    unfold wrapL hdN
    rw [← List.drop_drop, List.drop_left, hsum_drop i n (by omega), show n + 1 - (i + 1) = n - i by omega]
theorem hsum_le : ∀ (i n : Nat), hsum c t i n ≤ (nest c t n).length
  | 0, n => by simp [hsum]
  | i + 1, 0 => by simp [hsum]
  | i + 1, n + 1 => by
    have := hsum_le i n
    show hdN c t true (nest c t n).length + hsum c t i n ≤ (wrapL c t true (nest c t n)).length
    rw [wrap_len]
    omega
end

set_option maxRecDepth 20000 in
set_option maxHeartbeats 2000000 in
theorem walkDeep (n cl : Int) (w : World) :
    Calls Try.prog 5 #[.int .i64 n, .int .i64 cl] w fun e w' => e = .returned (.bool true) ∧ Below w.heap.size w w' := by
  obtain ⟨n0, n1⟩ := ix_bd n 40 (by decide) (by decide)
  obtain ⟨c0, c1⟩ := ix_bd cl 4 (by decide) (by decide)
  go_enter Try.func5, Try.ntmps5
  go_upto_region 2 with (fail)
  have N0 : 1 ≤ 1 + wrap64 ((IntKind.u64.wrap n).tmod 40) ∧ 1 + wrap64 ((IntKind.u64.wrap n).tmod 40) ≤ 40 := by omega
  generalize 1 + wrap64 ((IntKind.u64.wrap n).tmod 40) = N at N0 ⊢
  generalize wrap64 ((IntKind.u64.wrap cl).tmod 4) = C at c0 c1 ⊢
  obtain ⟨N0, N1⟩ := N0
  clear n0 n1
  obtain ⟨M, rfl⟩ := Int.eq_ofNat_of_zero_le (show 0 ≤ N by omega)
  by_cases hC : 0 < C
  · have HT : Hid (NestOk C 5) := .inr ⟨by omega, by omega, rfl⟩
    go_wp2
    go_loopw [6, 7] (fun b i wr => ∃ k : Nat, k ≤ M ∧ i = .int .i64 k ∧ Hid (Own .u8 5 w.heap.size wr b (nest C 5 k)) ∧ Hid (Below w.heap.size w wr)) (fun _ i _ => M - (intOf i).toNat)
    case atStart => exact ⟨0, Nat.zero_le _, rfl, Own.nil _ _ _ _, Below.refl _ _⟩
    case round =>
      obtain ⟨k, hk, rfl, hown, hbl⟩ := hrel
      by_cases hlt : k < M
      · have hf := nest_facts HT.out k (by omega)
        have HL := hid hf.1
        have HOK := hid (nest_ok HT.out k (by omega))
        clear hf
        go_wp2_with (go_at_call 20; refine (refWrap C 5 true _ (nest C 5 k) _ hown.out.sl HOK.out (by have := HL.out; omega)).mono ?_; rintro e w1 ⟨v1, rfl, ho1, hb1⟩; have HO1 := hid (show Own .u8 5 wr.heap.size w1 v1 (nest C 5 (k + 1)) from ho1); have HB1 := hid (hbl.out.trans (hb1.mono hbl.out.size)); clear ho1 hb1)
        go_roundw
        case rel => exact ⟨k + 1, by omega, by go_num, HO1.out.mono hbl.out.size, HB1⟩
        case measure => simp [intOf]; omega
      · obtain rfl : k = M := by omega
        obtain ⟨m, rfl⟩ : ∃ m, k = m + 1 := ⟨k - 1, by omega⟩
        have hw := nest_well HT.out m (by omega)
        have HU := hid (nest_facts HT.out (m + 1) (by omega)).2
        have hll := (nest_facts HT.out (m + 1) (by omega)).1
        by_cases h32 : m + 1 ≤ 32
        · rw [if_pos h32] at hw
          have HW := hid hw
          clear hw
          go_wp2_with (first
            | (go_at_call 11; refine (wellCheck _ (nest C 5 (m + 1)) _ hown.out.sl HU.out HW.out).mono ?_; rintro e w2 ⟨rfl, hb2⟩; have HO2 := hid (hown.out.below hb2); have HB2 := hid (hbl.out.trans (hb2.mono hbl.out.size)); clear hb2)
            | (go_at_call 13; refine (wellDepth _ (nest C 5 (m + 1)) _ HO2.out.sl HU.out HW.out).mono ?_; rintro e w3 ⟨rfl, hb3⟩; have HB3 := hid (HB2.out.trans (hb3.mono HB2.out.size)); clear hb3)
            | (go_at_call 16; refine (wakesOk _).mono ?_; rintro e w9 ⟨rfl, hb9⟩; have HB9 := hid (HB3.out.trans (hb9.mono HB3.out.size)); clear hb9))
          go_ret
          exact ⟨rfl, HB9.out⟩
        · rw [if_neg h32] at hw
          have HW := hid hw
          clear hw
          go_wp2_with (go_at_call 11; refine (wellCheck _ (nest C 5 (m + 1)) _ hown.out.sl HU.out HW.out).mono ?_; rintro e w2 ⟨rfl, hb2⟩; have HO2 := hid (hown.out.below hb2); have HB2 := hid (hbl.out.trans (hb2.mono hbl.out.size)); clear hb2)
          clear hown hbl
          obtain ⟨HS, hHS⟩ : ∃ HS, HS = hsum C 5 32 (m + 1) := ⟨_, rfl⟩
          rw [← hHS]
          have HHS := hid hHS
          clear hHS
          go_loopw [12, 13] (fun q i wr => ∃ j : Nat, j ≤ 32 ∧ i = .int .i64 j ∧ q = .int .i64 (hsum C 5 j (m + 1) : Nat) ∧ Hid (Below w2.heap.size w2 wr)) (fun _ i _ => 32 - (intOf i).toNat)
          case atStart => exact ⟨0, Nat.zero_le _, rfl, rfl, Below.refl _ _⟩
          case round =>
            obtain ⟨j, hj, rfl, rfl, hbj⟩ := hrel
            by_cases hj2 : j < 32
            · have hs1 := hsum_succ (c := C) (t := 5) j (m + 1) (by omega)
              have hs2 := hsum_drop (c := C) (t := 5) j (m + 1) (by omega)
              have hs3 := hsum_le (c := C) (t := 5) j (m + 1)
              obtain ⟨q, hq⟩ : ∃ q, m + 1 - j = q + 1 := ⟨m - j, by omega⟩
              have hrd := nest_rd HT.out q (by omega)
              rw [hq] at hs2
              rw [show m + 1 - j - 1 = q by omega] at hs1
              have hqu := (nest_facts HT.out (q + 1) (by omega)).2
              have hnb := (hdN_bd (nest_ok HT.out q (by omega)) (nest_facts HT.out q (by omega)).2).2
              have HQU := hid hqu
              have HRD := hid hrd
              have HS1 := hid hs1
              have HS2 := hid hs2
              have hqs : hsum C 5 j (m + 1) ≤ 12 * 40 := by omega
              have HS3 := hid hs3
              clear hs1 hs2 hs3 hqu hrd hq
              generalize hsum C 5 j (m + 1) = A at *
              generalize hdN C 5 true (nest C 5 q).length = hn at *
              generalize (nest C 5 q).length = ql at *
              go_wp2_with (first
                | (with_reducible refine at_from ?_; refine wpList_from _ rfl _ _ 22 rfl .u8 5 1 Try.underlying22 Try.infoU8 u6 (nest C 5 (m + 1)) rfl (HO2.out.sl.below hbj.out) .i64 (A : Int) rfl (by omega) (by have := HS3.out; omega) ?_; rw [Int.toNat_natCast, HS2.out]; intro v3 hv3; have HV3 := hid hv3; clear hv3)
                | (go_at_call 17; refine (refRead' _ (nest C 5 (q + 1)) _ HV3.out HQU.out HRD.out).mono ?_; rintro e w4 ⟨rfl, hb4⟩; have HB4 := hid (hbj.out.trans (hb4.mono hbj.out.size)); clear hb4))
              go_roundw
              case rel => exact ⟨j + 1, by omega, by go_num, by rw [HS1.out]; go_num, HB4.out.alloc HB4.out.size _⟩
              case measure => simp [intOf]; omega
            · obtain rfl : j = 32 := by omega
              rw [← HHS.out]
              go_wp2_with (go_at_call 16; refine (wakesOk _).mono ?_; rintro e w9 ⟨rfl, hb9⟩; have HB9 := hid ((HB2.out.trans (hbj.out.mono HB2.out.size)).trans (hb9.mono (HB2.out.trans (hbj.out.mono HB2.out.size)).size)); clear hb9)
              go_ret
              exact ⟨rfl, HB9.out⟩
  · obtain rfl : C = 0 := by omega
    have HT : Hid (NestOk 0 16) := .inl ⟨rfl, rfl⟩
    go_wp2
    go_loopw [6, 7] (fun b i wr => ∃ k : Nat, k ≤ M ∧ i = .int .i64 k ∧ Hid (Own .u8 5 w.heap.size wr b (nest 0 16 k)) ∧ Hid (Below w.heap.size w wr)) (fun _ i _ => M - (intOf i).toNat)
    case atStart => exact ⟨0, Nat.zero_le _, rfl, Own.nil _ _ _ _, Below.refl _ _⟩
    case round =>
      obtain ⟨k, hk, rfl, hown, hbl⟩ := hrel
      by_cases hlt : k < M
      · have hf := nest_facts HT.out k (by omega)
        have HL := hid hf.1
        have HOK := hid (nest_ok HT.out k (by omega))
        clear hf
        go_wp2_with (go_at_call 20; refine (refWrap 0 16 true _ (nest 0 16 k) _ hown.out.sl HOK.out (by have := HL.out; omega)).mono ?_; rintro e w1 ⟨v1, rfl, ho1, hb1⟩; have HO1 := hid (show Own .u8 5 wr.heap.size w1 v1 (nest 0 16 (k + 1)) from ho1); have HB1 := hid (hbl.out.trans (hb1.mono hbl.out.size)); clear ho1 hb1)
        go_roundw
        case rel => exact ⟨k + 1, by omega, by go_num, HO1.out.mono hbl.out.size, HB1⟩
        case measure => simp [intOf]; omega
      · obtain rfl : k = M := by omega
        obtain ⟨m, rfl⟩ : ∃ m, k = m + 1 := ⟨k - 1, by omega⟩
        have hw := nest_well HT.out m (by omega)
        have HU := hid (nest_facts HT.out (m + 1) (by omega)).2
        have hll := (nest_facts HT.out (m + 1) (by omega)).1
        by_cases h32 : m + 1 ≤ 32
        · rw [if_pos h32] at hw
          have HW := hid hw
          clear hw
          go_wp2_with (first
            | (go_at_call 11; refine (wellCheck _ (nest 0 16 (m + 1)) _ hown.out.sl HU.out HW.out).mono ?_; rintro e w2 ⟨rfl, hb2⟩; have HO2 := hid (hown.out.below hb2); have HB2 := hid (hbl.out.trans (hb2.mono hbl.out.size)); clear hb2)
            | (go_at_call 13; refine (wellDepth _ (nest 0 16 (m + 1)) _ HO2.out.sl HU.out HW.out).mono ?_; rintro e w3 ⟨rfl, hb3⟩; have HB3 := hid (HB2.out.trans (hb3.mono HB2.out.size)); clear hb3)
            | (go_at_call 16; refine (wakesOk _).mono ?_; rintro e w9 ⟨rfl, hb9⟩; have HB9 := hid (HB3.out.trans (hb9.mono HB3.out.size)); clear hb9))
          go_ret
          exact ⟨rfl, HB9.out⟩
        · rw [if_neg h32] at hw
          have HW := hid hw
          clear hw
          go_wp2_with (go_at_call 11; refine (wellCheck _ (nest 0 16 (m + 1)) _ hown.out.sl HU.out HW.out).mono ?_; rintro e w2 ⟨rfl, hb2⟩; have HO2 := hid (hown.out.below hb2); have HB2 := hid (hbl.out.trans (hb2.mono hbl.out.size)); clear hb2)
          clear hown hbl
          obtain ⟨HS, hHS⟩ : ∃ HS, HS = hsum 0 16 32 (m + 1) := ⟨_, rfl⟩
          rw [← hHS]
          have HHS := hid hHS
          clear hHS
          go_loopw [12, 13] (fun q i wr => ∃ j : Nat, j ≤ 32 ∧ i = .int .i64 j ∧ q = .int .i64 (hsum 0 16 j (m + 1) : Nat) ∧ Hid (Below w2.heap.size w2 wr)) (fun _ i _ => 32 - (intOf i).toNat)
          case atStart => exact ⟨0, Nat.zero_le _, rfl, rfl, Below.refl _ _⟩
          case round =>
            obtain ⟨j, hj, rfl, rfl, hbj⟩ := hrel
            by_cases hj2 : j < 32
            · have hs1 := hsum_succ (c := 0) (t := 16) j (m + 1) (by omega)
              have hs2 := hsum_drop (c := 0) (t := 16) j (m + 1) (by omega)
              have hs3 := hsum_le (c := 0) (t := 16) j (m + 1)
              obtain ⟨q, hq⟩ : ∃ q, m + 1 - j = q + 1 := ⟨m - j, by omega⟩
              have hrd := nest_rd HT.out q (by omega)
              rw [hq] at hs2
              rw [show m + 1 - j - 1 = q by omega] at hs1
              have hqu := (nest_facts HT.out (q + 1) (by omega)).2
              have hnb := (hdN_bd (nest_ok HT.out q (by omega)) (nest_facts HT.out q (by omega)).2).2
              have HQU := hid hqu
              have HRD := hid hrd
              have HS1 := hid hs1
              have HS2 := hid hs2
              have hqs : hsum 0 16 j (m + 1) ≤ 12 * 40 := by omega
              have HS3 := hid hs3
              clear hs1 hs2 hs3 hqu hrd hq
              generalize hsum 0 16 j (m + 1) = A at *
              generalize hdN 0 16 true (nest 0 16 q).length = hn at *
              generalize (nest 0 16 q).length = ql at *
              go_wp2_with (first
                | (with_reducible refine at_from ?_; refine wpList_from _ rfl _ _ 22 rfl .u8 5 1 Try.underlying22 Try.infoU8 u6 (nest 0 16 (m + 1)) rfl (HO2.out.sl.below hbj.out) .i64 (A : Int) rfl (by omega) (by have := HS3.out; omega) ?_; rw [Int.toNat_natCast, HS2.out]; intro v3 hv3; have HV3 := hid hv3; clear hv3)
                | (go_at_call 17; refine (refRead' _ (nest 0 16 (q + 1)) _ HV3.out HQU.out HRD.out).mono ?_; rintro e w4 ⟨rfl, hb4⟩; have HB4 := hid (hbj.out.trans (hb4.mono hbj.out.size)); clear hb4))
              go_roundw
              case rel => exact ⟨j + 1, by omega, by go_num, by rw [HS1.out]; go_num, HB4.out.alloc HB4.out.size _⟩
              case measure => simp [intOf]; omega
            · obtain rfl : j = 32 := by omega
              rw [← HHS.out]
              go_wp2_with (go_at_call 16; refine (wakesOk _).mono ?_; rintro e w9 ⟨rfl, hb9⟩; have HB9 := hid ((HB2.out.trans (hbj.out.mono HB2.out.size)).trans (hb9.mono (HB2.out.trans (hbj.out.mono HB2.out.size)).size)); clear hb9)
              go_ret
              exact ⟨rfl, HB9.out⟩

end Go.Proofs.Ytgjjncoelbhpeaa
