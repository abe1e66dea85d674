/- Contract of the document's own reader of a header: it answers what the plain function says and changes nothing that was there. -/
import Derived.Test.YtgjjncoelbhpeaaRef1
import Derived.Deep.DeepCutAuto
namespace Go.Proofs.Ytgjjncoelbhpeaa
open Go.RowKit

/-- where the reading of a long tag stands: k bytes have come, t of them; are there more? -/
def TagRel (r : List Int) (k : Nat) (t : Int) (mo : Bool) : Prop :=
  match mo with
  | true => rdTag true 0 r = lift3 k (rdTag (decide (k = 0)) t (r.drop k))
  | false => 1 ≤ k ∧ rdTag true 0 r = if t < 31 then (0, 0, 3) else (t, (k : Int), 0)
theorem tagRel_step {r : List Int} {k : Nat} {t y : Int} (h : Hid (rdTag true 0 r = lift3 k (rdTag (decide (k = 0)) t (y :: r.drop (k + 1))))) (h0 : 0 ≤ y) (h1 : t * 128 + y % 128 ≤ 268435455) (h3 : ¬ k = 0 ∨ ¬ y = 128) :
    TagRel r (k + 1) (t * 128 + y % 128) (decide (128 ≤ y)) := by
  by_cases hy : 128 ≤ y
  · rw [decide_eq_true hy]
    exact (tag_on h h1 hy h3).out
  · rw [decide_eq_false hy]
    refine ⟨by omega, ?_⟩
    have e : y % 128 = y := by omega
    by_cases h31 : t * 128 + y % 128 < 31
    · rw [if_pos h31]
      exact tag_small h h0 h1 (by omega) h31
    · rw [if_neg h31, tag_end h h0 h1 (by omega) (by omega), e]
      congr 2
      omega
theorem rd_short' {x : Int} {r : List Int} (h : ¬ x % 32 = 31) : rd (x :: r) = rdFin (x / 64) (x % 32) (decide (x / 32 % 2 = 1)) ((1 : Nat) : Int) ((x :: r).drop 1) := by simp [rd, h]
theorem rd_long' {x : Int} {r : List Int} {T : Int} {k : Nat} (h : x % 32 = 31) (hT : rdTag true 0 r = (T, (k : Int), 0)) : rd (x :: r) = rdFin (x / 64) T (decide (x / 32 % 2 = 1)) ((k + 1 : Nat) : Int) ((x :: r).drop (k + 1)) := by
  simp [rd, h, hT]
  congr 1
  omega
theorem Box.set' {t : TypeId} {cs : List Value} {B B' : Nat} {w : World} (h : Box t cs B w) (hne : B ≠ B') (j : Nat) (v : Value) : Box t cs B (w.setCell ⟨B', j, none⟩ v) :=
  (Below.heap_setCell w ⟨B', j, none⟩ v B hne).trans h
theorem rd_fin_bad {xs rs : List Int} {c t : Int} {b : Bool} {n L M F : Int} (h : rd xs = rdFin c t b n rs) (hl : rdLen rs = (L, M, F)) (hF : F ≠ 0) : rd xs = (Hd.zero, F) := by
  rw [h, rdFin, hl]; simp [hF]
theorem rd_fin_ok {xs rs : List Int} {c t : Int} {b : Bool} {n L M : Int} (h : rd xs = rdFin c t b n rs) (hl : rdLen rs = (L, M, 0)) : rd xs = (⟨c, t, b, L, n + M⟩, 0) := by
  rw [h, rdFin, hl]; simp
theorem rdLen_small {rs : List Int} {y : Int} (hn : rs ≠ []) (hy : y = rs.getD 0 0) (h : y < 128) : rdLen rs = (y, 1, 0) := by
  match rs, hn with
  | z :: q, _ =>
    have hz : y = z := hy
    rw [rdLen, if_pos (by omega), hz]
theorem rdLen_bad4 {rs : List Int} {y : Int} (hn : rs ≠ []) (hy : y = rs.getD 0 0) (h : ¬ y < 128) (h2 : y = 128 ∨ 132 < y) : rdLen rs = (0, 0, 4) := by
  match rs, hn with
  | z :: q, _ =>
    have hz : y = z := hy
    rw [rdLen, if_neg (by omega), if_pos (by omega)]
theorem Box.drew {t : TypeId} {cs : List Value} {B : Nat} {w : World} (h : Box t cs B w) : Box t cs B w.drew := h
theorem beq_dec (a b : Int) : (a == b) = decide (a = b) := rfl

set_option maxRecDepth 100000 in
set_option maxHeartbeats 2000000 in
theorem refRead (v : Value) (xs : List Int) (w : World) (h : Sl .u8 w v xs) (hu : U8 xs) :
    Calls Try.prog 17 #[v] w fun e w' => e = .returned (.tuple #[(rd xs).1.val, .int .i64 (rd xs).2]) ∧ Below w.heap.size w w' := by
  have m := h.len
  have hS := h
  obtain ⟨a, cap, rfl, q, mcap, h⟩ := h
  rcases Nat.eq_zero_or_pos xs.length with h0 | h0
  · have hx : xs = [] := List.eq_nil_of_length_eq_zero h0
    subst hx
    clear q m h h0 hS mcap
    simp only [List.length_nil]
    go_enter Try.func17, Try.ntmps17
    go_wp2
    exact bodyPost_ret (v := .tuple #[Hd.zero.val, .int .i64 2]) (by simp [results, Try.results17, go_sem, Hd.zero, Hd.val]) rfl ⟨rfl, by (repeat (first | exact Below.refl _ _ | exact below_drewN _ | refine Below.drew ?_ | refine Below.alloc ?_ (by simp) _ | refine Below.setCell ?_ (by simp) _ | refine below_drewN' ?_ _))⟩
  rcases h with rfl | ⟨b, o, rfl, hb, c⟩
  · omega
  · have hblt := hb h0
    clear hb
    obtain ⟨x, r, rfl⟩ : ∃ x r, xs = x :: r := by
      match xs, h0 with
      | x :: r, _ => exact ⟨x, r, rfl⟩
    have hx := hu.head
    have d0 : w.cell? ⟨b, o, none⟩ = some (.int .u8 x) := c 0 h0
    have C := hid c
    clear c q mcap
    obtain ⟨len, hlen⟩ : ∃ len, len = (x :: r).length := ⟨_, rfl⟩
    rw [← hlen] at m h0 hS ⊢
    have HL := hid hlen
    clear hlen
    obtain ⟨hx0, hx1⟩ := hx
    have HS := hid hS
    clear hS
    have hn0 : ((len : Int) == 0) = false := by simp; omega
    have hn1 : (0 : Int) < (len : Int) := by omega
    go_enter Try.func17, Try.ntmps17
    go_wp2
    have HXR := hid ((Box.made w 35 [.int .i64 0, .int .i64 0, .bool false, .int .i64 0, .int .i64 0]).alloc (.cells #[.int .i64 0, .int .i64 0, .bool false, .int .i64 0, .int .i64 0] 35))
    have HXN := hid (Box.made (w.alloc (.cells #[.int .i64 0, .int .i64 0, .bool false, .int .i64 0, .int .i64 0] 35)) 35 [.int .i64 0, .int .i64 0, .bool false, .int .i64 0, .int .i64 0])
    have hsz2 : (w.alloc (.cells #[.int .i64 0, .int .i64 0, .bool false, .int .i64 0, .int .i64 0] 35)).heap.size = w.heap.size + 1 := by simp
    rw [hsz2] at HXN
    clear hsz2
    have HB2 := hid (show Below w.heap.size w ((w.alloc (.cells #[.int .i64 0, .int .i64 0, .bool false, .int .i64 0, .int .i64 0] 35)).alloc (.cells #[.int .i64 0, .int .i64 0, .bool false, .int .i64 0, .int .i64 0] 35)) by (repeat (first | exact Below.refl _ _ | exact below_drewN _ | refine Below.drew ?_ | refine Below.alloc ?_ (by simp) _ | refine Below.setCell ?_ (by simp) _ | refine below_drewN' ?_ _)))
    generalize (w.alloc (.cells #[.int .i64 0, .int .i64 0, .bool false, .int .i64 0, .int .i64 0] 35)).alloc (.cells #[.int .i64 0, .int .i64 0, .bool false, .int .i64 0, .int .i64 0] 35) = W2 at HXR HXN HB2 ⊢
    have hz2 : w.heap.size + 1 < W2.heap.size := HXN.out.lt
    have d0' : W2.cell? ⟨b, o, none⟩ = some (.int .u8 x) := (HB2.out.cell (p := ⟨b, o, none⟩) hblt).trans d0
    have hb' : b < W2.heap.size := by omega
    clear d0
    go_region
    have HCB := hid (beq_dec (x / 32 % 2) 1)
    have HB3 := hid (show Below w.heap.size w (W2.alloc (.cells #[.int .i64 (x / 64), .int .i64 (x % 32), .bool (x / 32 % 2 == 1), .int .i64 0, .int .i64 0] 35)).drew from (HB2.out.alloc (by omega) _).drew)
    have HXH := hid (show Box 35 [.int .i64 (x / 64), .int .i64 (x % 32), .bool (x / 32 % 2 == 1), .int .i64 0, .int .i64 0] W2.heap.size (W2.alloc (.cells #[.int .i64 (x / 64), .int .i64 (x % 32), .bool (x / 32 % 2 == 1), .int .i64 0, .int .i64 0] 35)).drew from Box.made W2 _ [.int .i64 (x / 64), .int .i64 (x % 32), .bool (x / 32 % 2 == 1), .int .i64 0, .int .i64 0])
    have HXR3 := hid (show Box 35 [.int .i64 0, .int .i64 0, .bool false, .int .i64 0, .int .i64 0] w.heap.size (W2.alloc (.cells #[.int .i64 (x / 64), .int .i64 (x % 32), .bool (x / 32 % 2 == 1), .int .i64 0, .int .i64 0] 35)).drew from HXR.out.alloc _)
    have HXN3 := hid (show Box 35 [.int .i64 0, .int .i64 0, .bool false, .int .i64 0, .int .i64 0] (w.heap.size + 1) (W2.alloc (.cells #[.int .i64 (x / 64), .int .i64 (x % 32), .bool (x / 32 % 2 == 1), .int .i64 0, .int .i64 0] 35)).drew from HXN.out.alloc _)
    generalize (W2.alloc (.cells #[.int .i64 (x / 64), .int .i64 (x % 32), .bool (x / 32 % 2 == 1), .int .i64 0, .int .i64 0] 35)).drew = W3 at HB3 HXH HXR3 HXN3 ⊢
    obtain ⟨G, hG⟩ : ∃ G, G = W2.heap.size := ⟨_, rfl⟩
    rw [← hG] at HXH hz2 hb' ⊢
    generalize (x / 32 % 2 == 1) = CB at HCB HXH ⊢
    clear hG d0' HXR HXN HB2
    have HLR : Hid ((len : Int) = r.length + 1) := by show _ = _; rw [HL.out]; simp
    obtain ⟨k0, k1, k2, k3, k4⟩ := HXH.out.five
    go_upto_if 34 with (fail)
    clear k0 k1 k2 k3 k4
    go_cut [6] (fun av wx => ∃ (A : Nat) (TG : Int), av = .int .i64 A ∧ 1 ≤ A ∧ A ≤ len ∧ Hid (Box 35 [.int .i64 (x / 64), .int .i64 TG, .bool CB, .int .i64 0, .int .i64 0] G wx) ∧ Hid (Box 35 [.int .i64 0, .int .i64 0, .bool false, .int .i64 0, .int .i64 0] (w.heap.size + 1) wx) ∧ Hid (Box 35 [.int .i64 0, .int .i64 0, .bool false, .int .i64 0, .int .i64 0] w.heap.size wx) ∧ Hid (Below w.heap.size w wx) ∧ Hid (rd (x :: r) = rdFin (x / 64) TG CB A ((x :: r).drop A)))
    case first =>
      by_cases ht : x % 32 = 31
      · have ht' := hid ht
        obtain ⟨k0, k1, k2, k3, k4⟩ := HXH.out.five
        obtain ⟨f0, f1, f2, f3, f4⟩ := HXH.out.ice5
        go_wp2
        have HH0 := hid (HXH.out.set 1 (.int .i64 0))
        have HN0 := hid (HXN3.out.set' (B' := G) (by omega) 1 (.int .i64 0))
        have HR0 := hid (HXR3.out.set' (B' := G) (by omega) 1 (.int .i64 0))
        have HB0 := hid (HB3.out.setCell (p := ⟨G, 1, none⟩) (by simp; omega) (.int .i64 0))
        go_loopw [6, 7] (fun av mv wr => ∃ (A k : Nat) (t : Int) (mo : Bool), av = .int .i64 A ∧ mv = .bool mo ∧ A ≤ len ∧ 1 ≤ A ∧ Hid (A = k + 1) ∧ 0 ≤ t ∧ t ≤ 268435455 ∧ Hid (Box 35 [.int .i64 (x / 64), .int .i64 t, .bool CB, .int .i64 0, .int .i64 0] G wr) ∧ Hid (Box 35 [.int .i64 0, .int .i64 0, .bool false, .int .i64 0, .int .i64 0] (w.heap.size + 1) wr) ∧ Hid (Box 35 [.int .i64 0, .int .i64 0, .bool false, .int .i64 0, .int .i64 0] w.heap.size wr) ∧ Hid (Below w.heap.size w wr) ∧ Hid (TagRel r k t mo)) (fun av _ _ => len + 1 - (intOf av).toNat)
        case atStart => exact ⟨1, 0, 0, true, rfl, rfl, by omega, by omega, rfl, by omega, by omega, HH0.out, HN0.out, HR0.out, HB0.out, rdTag_zero r true 0⟩
        case round =>
          obtain ⟨A, k, t, mo, rfl, rfl, hA, hA1, hAk, ht0, ht1, HH, HN, HR, HB, hrel⟩ := hrel
          obtain ⟨k0, k1, k2, k3, k4⟩ := HH.out.five
          obtain ⟨f0, f1, f2, f3, f4⟩ := HH.out.ice5
          obtain ⟨n0, n1, n2, n3, n4⟩ := HN.out.five
          obtain ⟨r0, r1, r2, r3, r4⟩ := HR.out.five
          obtain ⟨g0, g1, g2, g3, g4⟩ := HR.out.ice5
          cases mo
          · have hrel := hrel.out
            have hk : Hid (A = k + 1) := hAk
            by_cases h31 : t < 31
            · go_wp2
              refine bodyPost_ret (results_hd1 rfl rfl (HR.out.store5 (.int .i64 0) (.int .i64 0) (.bool false) (.int .i64 0) (.int .i64 0))) rfl ⟨?_, below_store5 HB.out (Nat.le_refl _)⟩
              rw [rd_long_bad ht'.out (show rdTag true 0 r = (0, 0, 3) by rw [hrel.2, if_pos h31]) (by decide)]
              rfl
            · go_wp2
              go_meet
              case rel => exact ⟨A, t, rfl, hA1, hA, HH.out, HN.out, HR.out, HB.out, by show _ = _; rw [HCB.out, hk.out]; exact rd_long' ht'.out (by rw [hrel.2, if_neg (by omega)])⟩
          · have hrel := hid hrel.out
            by_cases hlt : A < len
            · have hkr : k < r.length := by have := hAk.out; have := HLR.out; omega
              obtain ⟨y, hy⟩ : ∃ y, y = r.getD k 0 := ⟨_, rfl⟩
              have hyb := hu.tail.get k
              have hyA : (x :: r).getD A 0 = y := by rw [hAk.out, hy]; rfl
              have d1 : wr.cell? ⟨b, o + A, none⟩ = some (.int .u8 y) := by
                have := C.out A (by rw [← HL.out]; exact hlt)
                rw [hyA] at this
                exact (HB.out.cell (p := ⟨b, o + A, none⟩) hblt).trans this
              rw [← hy] at hyb
              obtain ⟨hy0, hy1⟩ := hyb
              have HY := hid hy
              have hst := hid (tag_step hrel.out HY.out hkr)
              have hbz : b < wr.heap.size := Nat.lt_of_lt_of_le hblt HB.out.size
              have hAk2 : A = k + 1 := hAk.out
              clear hy hyA
              by_cases h1 : A = 1
              · have hk0 : k = 0 := by omega
                clear hAk2
                subst h1
                have HK0 := hid hk0
                clear hk0
                by_cases h128 : y = 128
                · have e2 : (y == 128) = true := by simp [h128]
                  have h128' := hid h128
                  clear h128
                  go_wp2
                  refine bodyPost_ret (results_hd1 rfl rfl (HR.out.store5 (.int .i64 0) (.int .i64 0) (.bool false) (.int .i64 0) (.int .i64 0))) rfl ⟨?_, below_store5 HB.out (Nat.le_refl _)⟩
                  rw [rd_long_bad ht'.out (tag_bad hst (.inl ⟨HK0.out, h128'.out⟩)) (by decide)]
                  rfl
                · have e2 : (y == 128) = false := by simp [h128]
                  have h128' := hid h128
                  clear h128
                  go_wp2
                  go_region
                  go_wp2
                  · have ho : 268435455 < t * 128 + y % 128 := by assumption
                    refine bodyPost_ret (results_hd1 rfl rfl (Box.drew ((HR.out.set' (B' := G) (by omega) 1 (.int .i64 (t * 128 + y % 128))).store5 (.int .i64 0) (.int .i64 0) (.bool false) (.int .i64 0) (.int .i64 0)))) rfl ⟨?_, Below.drew (below_store5 (HB.out.setCell (p := ⟨G, 1, none⟩) (by simp; omega) _) (Nat.le_refl _))⟩
                    rw [rd_long_bad ht'.out (tag_bad hst (.inr ho)) (by decide)]
                    rfl
                  · have ho : t * 128 + y % 128 ≤ 268435455 := by assumption
                    go_roundw
                    case rel => exact ⟨2, k + 1, t * 128 + y % 128, decide (128 ≤ y), by go_num, rfl, by omega, by omega, by show _ = _; rw [HK0.out], by omega, by omega, Box.drew (HH.out.set 1 (.int .i64 (t * 128 + y % 128))), Box.drew (HN.out.set' (B' := G) (by omega) 1 (.int .i64 (t * 128 + y % 128))), Box.drew (HR.out.set' (B' := G) (by omega) 1 (.int .i64 (t * 128 + y % 128))), Below.drew (HB.out.setCell (p := ⟨G, 1, none⟩) (by simp; omega) _), tagRel_step hst hy0 ho (.inr h128'.out)⟩
                    case measure => simp [intOf]; omega
              · have e3 : ((A : Int) == 1) = false := by simp; omega
                have hAk3 := hid hAk2
                have h1' := hid h1
                clear hAk2 h1
                go_wp2
                go_region
                go_wp2
                · have ho : 268435455 < t * 128 + y % 128 := by assumption
                  refine bodyPost_ret (results_hd1 rfl rfl (Box.drew ((HR.out.set' (B' := G) (by omega) 1 (.int .i64 (t * 128 + y % 128))).store5 (.int .i64 0) (.int .i64 0) (.bool false) (.int .i64 0) (.int .i64 0)))) rfl ⟨?_, Below.drew (below_store5 (HB.out.setCell (p := ⟨G, 1, none⟩) (by simp; omega) _) (Nat.le_refl _))⟩
                  rw [rd_long_bad ht'.out (tag_bad hst (.inr ho)) (by decide)]
                  rfl
                · have ho : t * 128 + y % 128 ≤ 268435455 := by assumption
                  go_roundw
                  case rel => exact ⟨A + 1, k + 1, t * 128 + y % 128, decide (128 ≤ y), by go_num, rfl, by omega, by omega, by show _ = _; rw [hAk3.out], by omega, by omega, Box.drew (HH.out.set 1 (.int .i64 (t * 128 + y % 128))), Box.drew (HN.out.set' (B' := G) (by omega) 1 (.int .i64 (t * 128 + y % 128))), Box.drew (HR.out.set' (B' := G) (by omega) 1 (.int .i64 (t * 128 + y % 128))), Below.drew (HB.out.setCell (p := ⟨G, 1, none⟩) (by simp; omega) _), tagRel_step hst hy0 ho (.inl (by have := hAk3.out; have := h1'.out; omega))⟩
                  case measure => simp [intOf]; omega
            · have hAl : A = len := by omega
              have hl := hid hAl
              have e4 : (len : Int) ≤ (A : Int) := by omega
              clear hAl hlt
              go_wp2
              refine bodyPost_ret (results_hd1 rfl rfl (HR.out.store5 (.int .i64 0) (.int .i64 0) (.bool false) (.int .i64 0) (.int .i64 0))) rfl ⟨?_, below_store5 HB.out (Nat.le_refl _)⟩
              rw [rd_long_bad ht'.out (show rdTag true 0 r = (0, 0, 2) by rw [hrel.out, List.drop_eq_nil_of_le (by have := hAk.out; have := HLR.out; have := hl.out; omega)]; simp [rdTag, lift3]) (by decide)]
              rfl
      · have ht2 : (x % 32 == 31) = false := by simp [ht]
        have ht' := hid ht
        clear ht
        go_wp2
        go_meet
        case rel => exact ⟨1, x % 32, rfl, by omega, by omega, HXH.out, HXN3.out, HXR3.out, HB3.out, by show _ = _; rw [HCB.out]; exact rd_short' ht'.out⟩
    case rest =>
      obtain ⟨A, TG, rfl, hA1, hA2, HH, HN, HR, HB, HRD⟩ := hcut
      obtain ⟨k0, k1, k2, k3, k4⟩ := HH.out.five
      obtain ⟨f0, f1, f2, f3, f4⟩ := HH.out.ice5
      obtain ⟨n0, n1, n2, n3, n4⟩ := HN.out.five
      obtain ⟨r0, r1, r2, r3, r4⟩ := HR.out.five
      obtain ⟨g0, g1, g2, g3, g4⟩ := HR.out.ice5
      obtain ⟨rs, hrs⟩ : ∃ rs, rs = (x :: r).drop A := ⟨_, rfl⟩
      rw [← hrs] at HRD
      have hrl : rs.length = len - A := by rw [hrs, List.length_drop, ← HL.out]
      have hru : U8 rs := by rw [hrs]; exact hu.drop A
      have hrg : ∀ i, rs.getD i 0 = (x :: r).getD (A + i) 0 := by intro i; rw [hrs]; simp [List.getD_eq_getElem?_getD]
      have HRL := hid hrl
      have HRU := hid hru
      have HRG := hid hrg
      clear hrs hrl hru hrg
      by_cases hAl : A < len
      · obtain ⟨y, hy⟩ : ∃ y, y = rs.getD 0 0 := ⟨_, rfl⟩
        have hyb := HRU.out.get 0
        have d1 : wc.cell? ⟨b, o + A, none⟩ = some (.int .u8 y) := by
          have := C.out A (by rw [← HL.out]; exact hAl)
          rw [show (x :: r).getD A 0 = y by rw [hy, HRG.out 0]; rfl] at this
          exact (HB.out.cell (p := ⟨b, o + A, none⟩) hblt).trans this
        rw [← hy] at hyb
        obtain ⟨hy0, hy1⟩ := hyb
        have hne : rs ≠ [] := by intro h; have := HRL.out; rw [h] at this; simp at this; omega
        have HNE := hid hne
        have HY := hid hy
        clear hy hne
        by_cases hs : y < 128
        · go_wp2
          have HRL2 := rdLen_small HNE.out HY.out hs
          refine bodyPost_ret (results_hd1 rfl rfl (((HR.out.set' (B' := G) (by omega) 3 (.int .i64 y)).set' (B' := G) (by omega) 4 (.int .i64 ((A : Int) + 1))).store5 (.int .i64 (x / 64)) (.int .i64 TG) (.bool CB) (.int .i64 y) (.int .i64 ((A : Int) + 1)))) rfl ⟨?_, below_store5 ((HB.out.setCell (p := ⟨G, 3, none⟩) (by simp; omega) _).setCell (p := ⟨G, 4, none⟩) (by simp; omega) _) (Nat.le_refl _)⟩
          rw [rd_fin_ok HRD.out HRL2]
          rfl
        · by_cases hs2 : y = 128 ∨ 132 < y
          · have hr4 := hid (rdLen_bad4 HNE.out HY.out hs hs2)
            have ht : (y - 128 == 0) = true ∨ ((y - 128 == 0) = false ∧ 4 < y - 128) := by simp; omega
            clear hs2
            rcases ht with ht | ⟨ht, ht2⟩
            all_goals
              go_wp2
              refine bodyPost_ret (results_hd1 rfl rfl (HR.out.store5 (.int .i64 0) (.int .i64 0) (.bool false) (.int .i64 0) (.int .i64 0))) rfl ⟨?_, below_store5 HB.out (Nat.le_refl _)⟩
              rw [rd_fin_bad HRD.out (hr4.out) (by decide)]
              rfl
          · obtain ⟨m, hm⟩ : ∃ m : Nat, y = 128 + (m : Int) := ⟨(y - 128).toNat, by omega⟩
            have hm1 : 1 ≤ m := by omega
            have hm4 : m ≤ 4 := by omega
            have hst := hid (len_start (m := m) HNE.out (by rw [← HY.out]; exact hm) hm1 hm4)
            have e1 : y - 128 = m := by omega
            have e2 : ((m : Int) == 0) = false := by simp; omega
            clear hs2 hm
            go_wp2
            obtain ⟨hc1, hc2⟩ : 0 ≤ A ∧ A + 1 ≤ len := ⟨by omega, by omega⟩
            go_loopw [6, 9] (fun av iv wr => ∃ (D j k : Nat) (L : Int), av = .int .i64 D ∧ iv = .int .i64 j ∧ D ≤ len ∧ j ≤ m ∧ Hid (D = A + k) ∧ Hid (k = j + 1) ∧ Hid (lbd k L) ∧ Hid (Box 35 [.int .i64 (x / 64), .int .i64 TG, .bool CB, .int .i64 L, .int .i64 0] G wr) ∧ Hid (Box 35 [.int .i64 0, .int .i64 0, .bool false, .int .i64 0, .int .i64 0] (w.heap.size + 1) wr) ∧ Hid (Box 35 [.int .i64 0, .int .i64 0, .bool false, .int .i64 0, .int .i64 0] w.heap.size wr) ∧ Hid (Below w.heap.size w wr) ∧ Hid (rdLen rs = lfin m (lenGo (decide (k = 1)) (m + 1 - k) L (rs.drop k)))) (fun _ iv _ => m - (intOf iv).toNat)
            case atStart => exact ⟨A + 1, 0, 1, 0, by go_num, rfl, by omega, by omega, rfl, rfl, by simp [Hid, lbd], HH.out, HN.out, HR.out, HB.out, hst.out⟩
            case round =>
              clear k0 k1 k2 k3 k4 f0 f1 f2 f3 f4 n0 n1 n2 n3 n4 r0 r1 r2 r3 r4 g0 g1 g2 g3 g4 HH HN HR HB d1
              obtain ⟨D, j, k, L, rfl, rfl, hD, hj, HD, HK, hbd, HH, HN, HR, HB, hrel⟩ := hrel
              obtain ⟨k0, k1, k2, k3, k4⟩ := HH.out.five
              obtain ⟨f0, f1, f2, f3, f4⟩ := HH.out.ice5
              obtain ⟨n0, n1, n2, n3, n4⟩ := HN.out.five
              obtain ⟨r0, r1, r2, r3, r4⟩ := HR.out.five
              obtain ⟨g0, g1, g2, g3, g4⟩ := HR.out.ice5
              have t0 : 0 ≤ L := hbd.out.1
              have t1 : L ≤ 4294967295 := hbd.out.2.1
              by_cases hjm : j < m
              · by_cases hDl : D < len
                · obtain ⟨z, hz⟩ : ∃ z, z = rs.getD k 0 := ⟨_, rfl⟩
                  have hzb := HRU.out.get k
                  have d1 : wr.cell? ⟨b, o + D, none⟩ = some (.int .u8 z) := by
                    have := C.out D (by rw [← HL.out]; exact hDl)
                    rw [show (x :: r).getD D 0 = z by rw [hz, HRG.out k, ← HD.out]] at this
                    exact (HB.out.cell (p := ⟨b, o + D, none⟩) hblt).trans this
                  rw [← hz] at hzb
                  obtain ⟨hz0, hz1⟩ := hzb
                  have HZ := hid hz
                  clear hz
                  have hbz : b < wr.heap.size := Nat.lt_of_lt_of_le hblt HB.out.size
                  have hkl : k < rs.length := by have := HRL.out; have := HD.out; omega
                  have hkm : k ≤ m := by have := HK.out; omega
                  have hst2 := hid (len_step hrel.out HZ.out hkl hkm)
                  clear hkl hkm
                  by_cases hj0 : j = 0
                  · subst hj0
                    have hk1 : Hid (k = 1) := HK
                    by_cases hz00 : z = 0
                    · have e5 : (z == 0) = true := by simp [hz00]
                      have hz00' := hid hz00
                      clear hz00
                      go_wp2
                      refine bodyPost_ret (results_hd1 rfl rfl (HR.out.store5 (.int .i64 0) (.int .i64 0) (.bool false) (.int .i64 0) (.int .i64 0))) rfl ⟨?_, below_store5 HB.out (Nat.le_refl _)⟩
                      rw [rd_fin_bad HRD.out (len_zero hst2 hk1.out hz00'.out) (by decide)]
                      rfl
                    · have e5 : (z == 0) = false := by simp [hz00]
                      have hz00' := hid hz00
                      clear hz00
                      go_wp2
                      go_region
                      go_wp2
                      go_roundw
                      case rel =>
                        refine ⟨D + 1, 1, k + 1, L * 256 + z, by go_num, by go_num, by omega, by omega, by show _ = _; have := HD.out; omega, by show _ = _; have := HK.out; omega, ?_, Box.drew (HH.out.set 3 (.int .i64 (L * 256 + z))), Box.drew (HN.out.set' (B' := G) (by omega) 3 (.int .i64 (L * 256 + z))), Box.drew (HR.out.set' (B' := G) (by omega) 3 (.int .i64 (L * 256 + z))), Below.drew (HB.out.setCell (p := ⟨G, 3, none⟩) (by simp; omega) _), (len_on hst2 (.inr hz00'.out) (by have := hk1.out; omega)).out⟩
                        obtain ⟨_, _, z1, z2, z3, z4⟩ := hbd.out
                        have := HK.out
                        refine ⟨by omega, ?_, ?_, ?_, ?_, ?_⟩ <;> omega
                      case measure => simp [intOf]; omega
                  · have e5 : ((j : Int) == 0) = false := by simp; omega
                    have hj0' := hid hj0
                    clear hj0
                    go_wp2
                    go_region
                    go_wp2
                    go_roundw
                    case rel =>
                      refine ⟨D + 1, j + 1, k + 1, L * 256 + z, by go_num, by go_num, by omega, by omega, by show _ = _; have := HD.out; omega, by show _ = _; have := HK.out; omega, ?_, Box.drew (HH.out.set 3 (.int .i64 (L * 256 + z))), Box.drew (HN.out.set' (B' := G) (by omega) 3 (.int .i64 (L * 256 + z))), Box.drew (HR.out.set' (B' := G) (by omega) 3 (.int .i64 (L * 256 + z))), Below.drew (HB.out.setCell (p := ⟨G, 3, none⟩) (by simp; omega) _), (len_on hst2 (.inl (by have := HK.out; have := hj0'.out; omega)) (by have := HK.out; omega)).out⟩
                      obtain ⟨_, _, z1, z2, z3, z4⟩ := hbd.out
                      have := HK.out
                      refine ⟨by omega, ?_, ?_, ?_, ?_, ?_⟩ <;> omega
                    case measure => simp [intOf]; omega
                · have e6 : (len : Int) ≤ (D : Int) := by omega
                  have hs5 := hid (len_short hrel.out (by have := HK.out; omega) (by have := HRL.out; have := HD.out; omega))
                  clear hDl
                  go_wp2
                  refine bodyPost_ret (results_hd1 rfl rfl (HR.out.store5 (.int .i64 0) (.int .i64 0) (.bool false) (.int .i64 0) (.int .i64 0))) rfl ⟨?_, below_store5 HB.out (Nat.le_refl _)⟩
                  rw [rd_fin_bad HRD.out (hs5.out) (by decide)]
                  rfl
              · have he := hid (len_end hrel.out (by have := HK.out; omega))
                by_cases hbig : L > 2147483647 ∨ L < 128
                · have he4 : Hid (rdLen rs = (0, 0, 4)) := by show _ = _; rw [he.out, if_pos hbig]
                  rcases hbig with hbig | hbig
                  · go_wp2
                    refine bodyPost_ret (results_hd1 rfl rfl (HR.out.store5 (.int .i64 0) (.int .i64 0) (.bool false) (.int .i64 0) (.int .i64 0))) rfl ⟨?_, below_store5 HB.out (Nat.le_refl _)⟩
                    rw [rd_fin_bad HRD.out (he4.out) (by decide)]
                    rfl
                  · have hbig2 : ¬ L > 2147483647 := by omega
                    go_wp2
                    refine bodyPost_ret (results_hd1 rfl rfl (HR.out.store5 (.int .i64 0) (.int .i64 0) (.bool false) (.int .i64 0) (.int .i64 0))) rfl ⟨?_, below_store5 HB.out (Nat.le_refl _)⟩
                    rw [rd_fin_bad HRD.out (he4.out) (by decide)]
                    rfl
                · have he0 : Hid (rdLen rs = (L, (m : Int) + 1, 0)) := by show _ = _; rw [he.out, if_neg hbig]
                  have hb1 : L ≤ 2147483647 := by omega
                  have hb2 : 128 ≤ L := by omega
                  clear hbig
                  go_wp2
                  refine bodyPost_ret (results_hd1 rfl rfl ((HR.out.set' (B' := G) (by omega) 4 (.int .i64 (D : Int))).store5 (.int .i64 (x / 64)) (.int .i64 TG) (.bool CB) (.int .i64 L) (.int .i64 (D : Int)))) rfl ⟨?_, below_store5 (HB.out.setCell (p := ⟨G, 4, none⟩) (by simp; omega) _) (Nat.le_refl _)⟩
                  rw [rd_fin_ok HRD.out he0.out, show (D : Int) = (A : Int) + ((m : Int) + 1) by have := HD.out; have := HK.out; omega]
                  rfl
      · have hl : A = len := by omega
        have hr2 : rdLen rs = (0, 0, 2) := by
          have : rs = [] := List.eq_nil_of_length_eq_zero (by rw [HRL.out]; omega)
          rw [this, rdLen]
        have HR2 := hid hr2
        have e4 : (len : Int) ≤ (A : Int) := by omega
        clear hr2 hl hAl
        go_wp2
        refine bodyPost_ret (results_hd1 rfl rfl (HR.out.store5 (.int .i64 0) (.int .i64 0) (.bool false) (.int .i64 0) (.int .i64 0))) rfl ⟨?_, below_store5 HB.out (Nat.le_refl _)⟩
        rw [rd_fin_bad HRD.out (HR2.out) (by decide)]
        rfl
end Go.Proofs.Ytgjjncoelbhpeaa
