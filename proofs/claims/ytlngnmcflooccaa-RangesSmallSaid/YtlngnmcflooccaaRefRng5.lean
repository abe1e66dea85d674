/- Contract of the document's Unpack: the fewest ranges that say the same as a two-stage table, or false. -/
import Derived.Test.YtlngnmcflooccaaRngUnp
import Derived.Test.YtlngnmcflooccaaOwnG
import Derived.Test.YtlngnmcflooccaaRefRng2
import Derived.BigQuiet
namespace Go.Proofs.Ytlngnmcflooccaa
open Go.RowKit

/-- what is told of an unpacked table -/
def UnpTold (ix bl : List Int) (B : Nat) (w' : World) (v' : Value) (ok : Bool) : Prop :=
  match unpackS ix bl with
  | some l => ok = true ∧ OwnG 43 B w' v' l
  | none => ok = false ∧ v' = .slice none 0 0

theorem told_none {ix bl : List Int} {B : Nat} {w' : World} (h : unpackS ix bl = none) : UnpTold ix bl B w' (.slice none 0 0) false := by
  unfold UnpTold
  rw [h]
  exact ⟨rfl, rfl⟩
theorem told_some {ix bl : List Int} {B : Nat} {w' : World} {v' : Value} {l : List Rg} (h : unpackS ix bl = some l) (ho : OwnG 43 B w' v' l) : UnpTold ix bl B w' v' true := by
  unfold UnpTold
  rw [h]
  exact ⟨rfl, ho⟩

theorem Try.infoRg : (Try.prog.info? 43).map (fun i => (i.zero, i.size, i.bytes)) = some (some (.agg #[.int .i64 0, .int .i64 0, .int .i64 0]), 3, 24) := by kernel_rfl
theorem box_far' {t : TypeId} {cs : List Value} {B B' j : Nat} {w : World} {v : Value} (h : Box t cs B w) (hn : B ≠ B') : Box t cs B (w.setCell ⟨B', j, none⟩ v) := by
  have e : (w.setCell ⟨B', j, none⟩ v).heap[B]? = w.heap[B]? := Below.heap_setCell _ _ _ _ (fun h => hn (by rw [h]))
  exact e.trans h
/-- what the loops over the groups keep -/
def UpRel (ix bl : List Int) (w : World) (u1 u2 : Value) (lv : Value) (c : Nat) (wr : World) : Prop :=
  ∃ l, OwnG 43 (w.heap.size + 1) wr lv l ∧ URp (getN ix bl) c l ∧ Box 25 [u1, u2] w.heap.size wr ∧ Below w.heap.size w wr

set_option maxHeartbeats 8000000 in
set_option maxRecDepth 100000 in
theorem refUnpack (u1 u2 : Value) (ix bl : List Int) (w : World) (h1 : Sl .i64 w u1 ix) (h2 : Sl .i64 w u2 bl) (hb : ix.length ≤ 10000 ∧ bl.length ≤ 10000000) :
    Calls Try.prog 13 #[.agg #[u1, u2]] w fun e w' => ∃ v' ok, e = .returned (.tuple #[v', .bool ok]) ∧ UnpTold ix bl w.heap.size w' v' ok ∧ Below w.heap.size w w' := by
  obtain ⟨a1, cap1, rfl, k1, -, h1⟩ := h1
  obtain ⟨a2, cap2, rfl, k2, -, h2⟩ := h2
  obtain ⟨n1, hn1⟩ : ∃ n, n = ix.length := ⟨_, rfl⟩
  obtain ⟨n2, hn2⟩ : ∃ n, n = bl.length := ⟨_, rfl⟩
  have H1 := hid h1
  have H2 := hid h2
  rw [← hn1] at H1 k1 hb ⊢
  rw [← hn2] at H2 k2 hb ⊢
  obtain ⟨hb1, hb2⟩ := hb
  have HN := hid (show n1 = ix.length ∧ n2 = bl.length from ⟨hn1, hn2⟩)
  clear h1 h2 hn1 hn2
  obtain ⟨i0, hi0, hz0, hz1, hz2⟩ := info_parts Try.infoRg
  by_cases hlen : n1 = 4352 ∧ n2 % 256 = 0
  · obtain ⟨hl1, hl2⟩ := hlen
    subst hl1
    obtain ⟨nb, hnb⟩ : ∃ nb, nb = n2 / 256 := ⟨_, rfl⟩
    have w1 : (n2 : Int) % 256 = 0 := by omega
    have w2 : (n2 : Int) / 256 = (nb : Int) := by omega
    have HNB := hid (show n2 = 256 * nb ∧ nb = n2 / 256 by omega)
    have hnbm : nb ≤ 100000 := by omega
    have HBX : Hid (Box 25 [.slice a1 4352 cap1, .slice a2 n2 cap2] w.heap.size (w.alloc (.cells #[.slice a1 4352 cap1, .slice a2 n2 cap2] 25))) := Box.made w _ _
    have HB0 : Hid (Below w.heap.size w (w.alloc (.cells #[.slice a1 4352 cap1, .slice a2 n2 cap2] 25))) := hid (by (repeat (first | exact Below.refl _ _ | exact below_drewN _ | refine Below.drew ?_ | refine Below.alloc ?_ (by first | omega | (simp; done) | (simp; omega)) _ | refine Below.setCell ?_ (by first | (simp; done) | (simp; omega)) _ | refine below_drewN' ?_ _)))
    clear hl2 hnb
    go_enter Try.func13, Try.ntmps13
    go_wp2_with (fail)
    clear w1
    generalize w.alloc (.cells #[.slice a1 4352 cap1, .slice a2 n2 cap2] 25) = W1 at HBX HB0 ⊢
    have hcl1 : ∀ wz, Below w.heap.size w wz → ∀ i, i < 4352 → ∃ b o, a1 = some ⟨b, o, none⟩ ∧ wz.cell? ⟨b, o + i, none⟩ = some (.int .i64 (ix.getD i 0)) := fun wz hbz i hi => by
      rcases H1.out with hc | ⟨b, o, he, hbb, hc⟩
      · omega
      · exact ⟨b, o, he, (hbz.cell (p := ⟨b, o + i, none⟩) (hbb (by omega))).trans (hc i hi)⟩
    have hcl2 : ∀ wz, Below w.heap.size w wz → ∀ i, i < n2 → ∃ b o, a2 = some ⟨b, o, none⟩ ∧ wz.cell? ⟨b, o + i, none⟩ = some (.int .i64 (bl.getD i 0)) := fun wz hbz i hi => by
      rcases H2.out with hc | ⟨b, o, he, hbb, hc⟩
      · omega
      · exact ⟨b, o, he, (hbz.cell (p := ⟨b, o + i, none⟩) (hbb (by omega))).trans (hc i hi)⟩
    have HC1 := hid hcl1
    have HC2 := hid hcl2
    clear hcl1 hcl2 H1 H2
    go_loopw [4] (fun iv wr => ∃ i : Nat, iv = .int .i64 i ∧ i ≤ n2 ∧ W1 = wr ∧ Hid (∀ j, j < i → 0 ≤ bl.getD j 0 ∧ bl.getD j 0 ≤ 65535)) (fun iv _ => n2 - (intOf iv).toNat)
    case atStart => exact ⟨0, rfl, by omega, rfl, fun j hj => absurd hj (by omega)⟩
    case round =>
      obtain ⟨i, rfl, hi, rfl, hall⟩ := hrel
      have x0 := HBX.out.cell 0
      have x1 := HBX.out.cell 1
      simp only [List.getElem?_cons_zero, List.getElem?_cons_succ] at x0 x1
      by_cases hlt : i < n2
      · obtain ⟨b2, o2, rfl, d2⟩ := HC2.out W1 HB0.out i hlt
        have hnx : (0 ≤ bl.getD i 0 ∧ bl.getD i 0 ≤ 65535) → ∀ j, j < i + 1 → 0 ≤ bl.getD j 0 ∧ bl.getD j 0 ≤ 65535 := fun h j hj => by
          rcases Nat.lt_or_ge j i with h1 | h1
          · exact hall.out j h1
          · obtain rfl : j = i := by omega
            exact h
        have hbad : ¬ (0 ≤ bl.getD i 0 ∧ bl.getD i 0 ≤ 65535) → unpackS ix bl = none := fun h => unpackS_none fun hh => h (hh.1.2.2.1 i (by have := HN.out.2; omega))
        have HNX := hid hnx
        have HBAD := hid hbad
        clear hnx hbad
        generalize bl.getD i 0 = x at d2 HNX HBAD
        by_cases hx : 0 ≤ x ∧ x ≤ 65535
        · have hr := hid (HNX.out hx)
          have hd : decide (0 ≤ x ∧ x ≤ 65535) = true := decide_eq_true hx
          have HD := hid hd
          clear hx hd
          go_wp2_with (go_at_call 27; refine (refIn5 x 0 65535 _).mono ?_; rw [HD.out]; rintro e w3 ⟨rfl, rfl⟩)
          go_roundw
          case rel => exact ⟨i + 1, by go_num, by omega, by trivial, hr.out⟩
          case measure => simp [intOf]; omega
        · have hr := hid (HBAD.out hx)
          have hd : decide (0 ≤ x ∧ x ≤ 65535) = false := decide_eq_false hx
          have HD := hid hd
          clear hx hd
          go_wp2_with (go_at_call 27; refine (refIn5 x 0 65535 _).mono ?_; rw [HD.out]; rintro e w3 ⟨rfl, rfl⟩)
          go_ret2
          exact ⟨_, _, rfl, told_none hr.out, HB0.out⟩
      · obtain rfl : n2 = i := by omega
        clear hi hlt
        go_wp2_with (fail)
        clear x0 x1
        obtain ⟨g, hg⟩ : ∃ g, g = getN ix bl := ⟨_, rfl⟩
        have HG := hid hg
        clear hg
        go_loopw [5, 6] (fun lv kv wr => ∃ (k : Nat) (l : List Rg), kv = .int .i64 k ∧ k ≤ 4352 ∧ Hid (OwnG 43 (w.heap.size + 1) wr lv l) ∧ Hid (URp g (256 * k) l) ∧ Hid (Box 25 [.slice a1 4352 cap1, .slice a2 n2 cap2] w.heap.size wr) ∧ Hid (Below w.heap.size w wr) ∧ Hid (∀ j, j < k → 0 ≤ ix.getD j 0 ∧ ix.getD j 0 < (nb : Int))) (fun _ kv _ => 4352 - (intOf kv).toNat)
        case atStart => exact ⟨0, [], rfl, by omega, OwnG.nil _ _ _, ⟨by simp, .inl rfl⟩, HBX.out, HB0.out, fun j hj => absurd hj (by omega)⟩
        case round =>
          clear HBX HB0
          obtain ⟨k, l, rfl, hk, hown, hur, hbx, hbel, hidx⟩ := hrel
          have x0 := hbx.out.cell 0
          have x1 := hbx.out.cell 1
          simp only [List.getElem?_cons_zero, List.getElem?_cons_succ] at x0 x1
          by_cases hlt : k < 4352
          · obtain ⟨b1, o1, rfl, d1⟩ := HC1.out wr hbel.out k hlt
            obtain ⟨m1, hm1⟩ : ∃ m1 : Int, m1 = (nb : Int) - 1 := ⟨_, rfl⟩
            have w3 : (nb : Int) - 1 = m1 := by omega
            have w4 : IntKind.i64.wrap m1 = m1 := by rw [IntKind.wrap_i64]; omega
            have HM1 := hid hm1
            have QA : Hid (∀ m, Calls Try.prog 27 #[.int .i64 (ix.getD k 0), .int .i64 0, .int .i64 m1] (wr.drewN m) fun e w' => e = .returned (.bool (decide (0 ≤ ix.getD k 0 ∧ ix.getD k 0 ≤ m1))) ∧ ∃ k, w' = wr.drewN k) := hid fun m => quiet_same0 (refIn5 (ix.getD k 0) 0 m1 (wr.drewN m))
            have hnx : (0 ≤ ix.getD k 0 ∧ ix.getD k 0 ≤ m1) → ∀ j, j < k + 1 → 0 ≤ ix.getD j 0 ∧ ix.getD j 0 < (nb : Int) := fun h j hj => by
              rcases Nat.lt_or_ge j k with h1 | h1
              · exact hidx.out j h1
              · obtain rfl : j = k := by omega
                omega
            have hbad : ¬ (0 ≤ ix.getD k 0 ∧ ix.getD k 0 ≤ m1) → unpackS ix bl = none := fun h => unpackS_none fun hh => h (by
              have := hh.1.2.2.2 k (by have := HN.out.1; omega)
              rw [← HN.out.2, ← HNB.out.2] at this
              omega)
            have HNX := hid hnx
            have HBAD := hid hbad
            have HQX : Hid (∀ i, i < 256 → getN ix bl (256 * k + i) = bl.getD (256 * (ix.getD k 0).toNat + i) 0) := hid fun i hi => by
              unfold getN
              rw [show (256 * k + i) / 256 = k by omega, show (256 * k + i) % 256 = i by omega]
            clear hnx hbad hm1
            obtain ⟨x, hxx⟩ : ∃ x, x = ix.getD k 0 := ⟨_, rfl⟩
            rw [← hxx] at d1 QA HNX HBAD HQX
            have HXX := hid hxx
            clear hxx
            by_cases hx : 0 ≤ x ∧ x ≤ m1
            · rw [decide_eq_true hx] at QA
              have hidxn := hid (HNX.out hx)
              obtain ⟨q, rfl⟩ := Int.eq_ofNat_of_zero_le hx.1
              have hqn : q < nb := by omega
              clear hx HNX HBAD
              have hd37 : decide ((k : Int) < 4352) = true := decide_eq_true (by omega)
              go_wp2_with (fail)
              go_quiet (first | (go_at_call 27; with_reducible exact QA.out _))
              clear hd37
              have hown0 := hid (hown.out.drewN nq)
              have hbx0 := hid (hbx.out.drewN nq)
              have hbel0 := hid (below_drewN' hbel.out nq)
              clear hown hbx hbel d1 x0 x1 QA
              generalize wr.drewN nq = wa at hown0 hbx0 hbel0 ⊢
              obtain ⟨q0, hq0⟩ : ∃ q0, q0 = 256 * q := ⟨_, rfl⟩
              obtain ⟨k0, hk0⟩ : ∃ k0, k0 = 256 * k := ⟨_, rfl⟩
              have wq : (256 : Int) * (q : Int) = (q0 : Int) := by omega
              have wk : (256 : Int) * (k : Int) = (k0 : Int) := by omega
              have hq0n : q0 + 256 ≤ n2 := by have := HNB.out; omega
              have hk0n : k0 + 256 ≤ 1114112 := by omega
              have HQK := hid (show q0 = 256 * q ∧ k0 = 256 * k from ⟨hq0, hk0⟩)
              clear hq0 hk0
              go_wp2_with (fail)
              go_loopw [5, 7] (fun lv iv wi => ∃ (i : Nat) (l2 : List Rg), iv = .int .i64 i ∧ i ≤ 256 ∧ Hid (OwnG 43 (w.heap.size + 1) wi lv l2) ∧ Hid (URp g (k0 + i) l2) ∧ Hid (Box 25 [.slice (some ⟨b1, o1, none⟩) 4352 cap1, .slice a2 n2 cap2] w.heap.size wi) ∧ Hid (Below w.heap.size w wi)) (fun _ iv _ => 256 - (intOf iv).toNat)
              case atStart => exact ⟨0, l, rfl, by omega, hown0.out, by rw [Nat.add_zero, HQK.out.2]; exact hur.out, hbx0.out, hbel0.out⟩
              case round =>
                clear hown0 hbx0 hbel0 hur
                obtain ⟨i, l2, rfl, hi, hown, hur, hbx, hbel⟩ := hrel
                by_cases hlt : i < 256
                · obtain ⟨b1', o1', he, d1⟩ := HC1.out wr hbel.out k (by omega)
                  injection he with he
                  injection he with e1 e2
                  subst e1 e2
                  rw [← HXX.out] at d1
                  obtain ⟨qi, hqi⟩ : ∃ qi, qi = q0 + i := ⟨_, rfl⟩
                  obtain ⟨c, hc⟩ : ∃ c, c = k0 + i := ⟨_, rfl⟩
                  have wqi : (q0 : Int) + (i : Int) = (qi : Int) := by omega
                  have wki : (k0 : Int) + (i : Int) = (c : Int) := by omega
                  have hqin : qi < n2 := by omega
                  have hcn : c < 1114112 := by omega
                  obtain ⟨b2, o2, rfl, d2⟩ := HC2.out wr hbel.out qi hqin
                  have hgc : Hid (bl.getD qi 0 = g c) := hid (by
                    rw [HG.out, hc, HQK.out.2, HQX.out i hlt, Int.toNat_natCast, hqi, HQK.out.1])
                  rw [hgc.out] at d2
                  have x0 := hbx.out.cell 0
                  have x1 := hbx.out.cell 1
                  simp only [List.getElem?_cons_zero, List.getElem?_cons_succ] at x0 x1
                  have hur2 : Hid (URp g c l2) := hid (by rw [hc]; exact hur.out)
                  have HCI := hid (show c = k0 + i ∧ k0 + (i + 1) = c + 1 by omega)
                  clear hqi hc hur hgc
                  obtain ⟨y, hy⟩ : ∃ y, y = g c := ⟨_, rfl⟩
                  rw [← hy] at d2
                  have HY := hid hy
                  clear hy
                  go_wp2_with (fail)
                  go_quiet (fail)
                  have hown1 := hid (hown.out.drewN nq)
                  have hbx1 := hid (hbx.out.drewN nq)
                  have hbel1 := hid (below_drewN' hbel.out nq)
                  clear hown hbx hbel d1 d2 x0 x1
                  generalize wr.drewN nq = wb at hown1 hbx1 hbel1 ⊢
                  by_cases hy0 : y = 0
                  · have hr := hid (hur2.out.zero (by rw [← HY.out]; exact hy0))
                    have hyb : (y == 0) = true := by rw [hy0]; rfl
                    clear hy0
                    go_wp2_with (fail)
                    go_roundw
                    case rel => exact ⟨i + 1, l2, by go_num, by omega, hown1.out, by rw [HCI.out.2]; exact hr.out, hbx1.out, hbel1.out⟩
                    case measure => simp [intOf]; omega
                  · have hyb : (y == 0) = false := by simpa using hy0
                    have hyn : g c ≠ 0 := by rw [← HY.out]; exact hy0
                    have HYN := hid hyn
                    clear hy0 hyn
                    obtain ⟨al, cl, hlv⟩ := hown1.out.form
                    obtain ⟨m, hm⟩ : ∃ m, m = l2.length := ⟨_, rfl⟩
                    rw [← hm] at hlv
                    subst hlv
                    have HM := hid hm
                    have hmc : m ≤ 1114112 := by have := hur2.out.1; omega
                    have hwb : w.heap.size + 1 ≤ wb.heap.size := hbx1.out.lt
                    clear hm
                    have hlast : ∀ m1 : Nat, m1 + 1 = m → m1 < l2.length := fun m1 h => by have := HM.out; omega
                    have HLAST := hid hlast
                    clear hlast
                    rcases Nat.eq_zero_or_pos m with hm0 | hm0
                    · have hmd : decide (0 < m) = false := decide_eq_false (by omega)
                      have hr := hid (hur2.out.app HYN.out (by have := HM.out; omega))
                      have hbk : m + 1 ≤ 2001 := by omega
                      clear hm0
                      go_wp2_with (at_builtin; refine wpList_appG _ rfl _ _ 22 rfl (w.heap.size + 1) 43 24 i0 (.agg #[.int .i64 0, .int .i64 0, .int .i64 0]) Try.underlying22 hi0 hz0 hz1 hz2 rfl _ l2 rfl (hown1.out.below (by (repeat (first | exact Below.refl _ _ | exact below_drewN _ | refine Below.drew ?_ | refine Below.alloc ?_ (by first | omega | (simp; done) | (simp; omega)) _ | refine Below.setCell ?_ (by first | (simp; done) | (simp; omega)) _ | refine below_drewN' ?_ _)))) wb.heap.size ⟨(c : Int), (c : Int), y⟩ rfl ⟨by rw [cell_of_row _ wb.heap.size 0 _ 43 (0, 0) (heap_alloc_new wb _)]; rfl, by rw [cell_of_row _ wb.heap.size 1 _ 43 (0, 0) (heap_alloc_new wb _)]; rfl, by rw [cell_of_row _ wb.heap.size 2 _ 43 (0, 0) (heap_alloc_new wb _)]; rfl⟩ (by have := HM.out; unfold maxLen; omega) (by have := HM.out; omega) (by have := hbx1.out.lt; simp; omega) ?_; intro g6 c6 w6 ho6 hb6; rw [← HM.out] at ho6 ⊢; have HO6 := hid ho6; have HB6 := hid (Below.trans (show Below (w.heap.size + 1) wb _ from by (repeat (first | exact Below.refl _ _ | exact below_drewN _ | refine Below.drew ?_ | refine Below.alloc ?_ (by first | omega | (simp; done) | (simp; omega)) _ | refine Below.setCell ?_ (by first | (simp; done) | (simp; omega)) _ | refine below_drewN' ?_ _))) hb6); clear ho6 hb6)
                      go_roundw
                      case rel => exact ⟨i + 1, l2 ++ [⟨(c : Int), (c : Int), g c⟩], by go_num, by omega, by have := HO6.out; rw [HY.out] at this; exact this, by rw [HCI.out.2]; exact hr.out, hbx1.out.below HB6.out (by omega), hbel1.out.trans (HB6.out.mono (by omega))⟩
                      case measure => simp [intOf]; omega
                    · obtain ⟨p1, hp1⟩ : ∃ p1, p1 + 1 = m := ⟨m - 1, by omega⟩
                      obtain ⟨g9, cap9, hg9, hgb, hglt, t1, t2, tf, tset⟩ := hown1.out.open_ (HLAST.out p1 hp1)
                      injection hg9 with hg9 hg9m hg9c
                      clear hg9m
                      subst hg9 hg9c
                      have hidx : l2.length - 1 = p1 := by have := HM.out; omega
                      have hext := fun h1 h2 h3 => hur2.out.ext HYN.out h1 h2 h3
                      have happ := fun h => hur2.out.app HYN.out h
                      rw [hidx] at hext happ
                      obtain ⟨rr, hrr⟩ : ∃ rr, rr = l2.getD p1 noRg := ⟨_, rfl⟩
                      rw [← hrr] at t1 t2 tset hext happ
                      obtain ⟨rf, rt, rv⟩ := rr
                      dsimp only at t1 t2 tset hext happ
                      have HEXT := hid hext
                      have HAPP := hid happ
                      have HTS := hid tset
                      have hl0 : Hid (0 < l2.length) := hid (by have := HM.out; omega)
                      have hgS : g9 ≠ w.heap.size := by omega
                      have hgS2 : w.heap.size ≠ g9 := by omega
                      have HGB := hid hgb
                      clear hext happ tset hrr hidx hgb hglt
                      obtain ⟨cm, hcm⟩ : ∃ cm : Int, cm = (c : Int) - 1 := ⟨_, rfl⟩
                      have wcm : (c : Int) - 1 = cm := hcm.symm
                      have wp1 : (m : Int) - 1 = (p1 : Int) := by omega
                      have hp1m : p1 < m := by omega
                      have HCM := hid hcm
                      have HP1 := hid hp1
                      clear hcm hp1
                      by_cases ht : rt = cm
                      · by_cases hv : rv = y
                        · have hr := hid (HEXT.out hl0.out (by rw [ht, HCM.out]) (by rw [hv, HY.out]))
                          have htb : (rt == cm) = true := by rw [ht]; simp
                          have hvb : (rv == y) = true := by rw [hv]; simp
                          clear ht hv
                          have HN9 := hid (HTS.out (c : Int))
                          have hl9 : Hid ((l2.set p1 (⟨rf, (c : Int), rv⟩ : Rg)).length = m) := hid (by rw [List.length_set]; exact HM.out.symm)
                          rcases Nat.lt_or_ge 2001 m with hbk | hbk
                          · have hsk := hid (show URp g (256 * (k + 1)) (l2.set p1 (⟨rf, (c : Int), rv⟩ : Rg)) from hr.out.skip (by rw [hl9.out]; omega) (by have := HQK.out; have := HCI.out; omega))
                            go_wp2_with (fail)
                            go_roundw
                            case rel => exact ⟨k + 1, l2.set p1 (⟨rf, (c : Int), rv⟩ : Rg), by go_num, by omega, HN9.out, hsk.out, box_far' hbx1.out hgS2, hbel1.out.setCell (by have := HGB.out; show w.heap.size ≤ g9; omega) _, hidxn.out⟩
                            case measure => simp [intOf]; omega
                          · go_wp2_with (fail)
                            go_roundw
                            case rel => exact ⟨i + 1, _, by go_num, by omega, HN9.out, by rw [HCI.out.2]; exact hr.out, box_far' hbx1.out hgS2, hbel1.out.setCell (by have := HGB.out; show w.heap.size ≤ g9; omega) _⟩
                            case measure => simp [intOf]; omega
                        · have hr := hid (HAPP.out (fun h => hv (by rw [HY.out]; exact h.2.2)))
                          have htb : (rt == cm) = true := by rw [ht]; simp
                          have hvb : (rv == y) = false := by simpa using hv
                          clear ht hv
                          rcases Nat.lt_or_ge 2001 (m + 1) with hbk | hbk
                          · have hsk := hid (show URp g (256 * (k + 1)) (l2 ++ [(⟨(c : Int), (c : Int), g c⟩ : Rg)]) from hr.out.skip (by rw [List.length_append]; have := HM.out; simp only [List.length_cons, List.length_nil]; omega) (by have := HQK.out; have := HCI.out; omega))
                            go_wp2_with (at_builtin; refine wpList_appG _ rfl _ _ 22 rfl (w.heap.size + 1) 43 24 i0 (.agg #[.int .i64 0, .int .i64 0, .int .i64 0]) Try.underlying22 hi0 hz0 hz1 hz2 rfl _ l2 rfl (hown1.out.below (by (repeat (first | exact Below.refl _ _ | exact below_drewN _ | refine Below.drew ?_ | refine Below.alloc ?_ (by first | omega | (simp; done) | (simp; omega)) _ | refine Below.setCell ?_ (by first | (simp; done) | (simp; omega)) _ | refine below_drewN' ?_ _)))) wb.heap.size ⟨(c : Int), (c : Int), y⟩ rfl ⟨by rw [cell_of_row _ wb.heap.size 0 _ 43 (0, 0) (heap_alloc_new wb _)]; rfl, by rw [cell_of_row _ wb.heap.size 1 _ 43 (0, 0) (heap_alloc_new wb _)]; rfl, by rw [cell_of_row _ wb.heap.size 2 _ 43 (0, 0) (heap_alloc_new wb _)]; rfl⟩ (by have := HM.out; unfold maxLen; omega) (by have := HM.out; omega) (by have := hbx1.out.lt; simp; omega) ?_; intro g6 c6 w6 ho6 hb6; rw [← HM.out] at ho6 ⊢; have HO6 := hid ho6; have HB6 := hid (Below.trans (show Below (w.heap.size + 1) wb _ from by (repeat (first | exact Below.refl _ _ | exact below_drewN _ | refine Below.drew ?_ | refine Below.alloc ?_ (by first | omega | (simp; done) | (simp; omega)) _ | refine Below.setCell ?_ (by first | (simp; done) | (simp; omega)) _ | refine below_drewN' ?_ _))) hb6); clear ho6 hb6)
                            go_roundw
                            case rel => exact ⟨k + 1, l2 ++ [(⟨(c : Int), (c : Int), g c⟩ : Rg)], by go_num, by omega, by have := HO6.out; rw [HY.out] at this; exact this, hsk.out, hbx1.out.below HB6.out (by omega), hbel1.out.trans (HB6.out.mono (by omega)), hidxn.out⟩
                            case measure => simp [intOf]; omega
                          · go_wp2_with (at_builtin; refine wpList_appG _ rfl _ _ 22 rfl (w.heap.size + 1) 43 24 i0 (.agg #[.int .i64 0, .int .i64 0, .int .i64 0]) Try.underlying22 hi0 hz0 hz1 hz2 rfl _ l2 rfl (hown1.out.below (by (repeat (first | exact Below.refl _ _ | exact below_drewN _ | refine Below.drew ?_ | refine Below.alloc ?_ (by first | omega | (simp; done) | (simp; omega)) _ | refine Below.setCell ?_ (by first | (simp; done) | (simp; omega)) _ | refine below_drewN' ?_ _)))) wb.heap.size ⟨(c : Int), (c : Int), y⟩ rfl ⟨by rw [cell_of_row _ wb.heap.size 0 _ 43 (0, 0) (heap_alloc_new wb _)]; rfl, by rw [cell_of_row _ wb.heap.size 1 _ 43 (0, 0) (heap_alloc_new wb _)]; rfl, by rw [cell_of_row _ wb.heap.size 2 _ 43 (0, 0) (heap_alloc_new wb _)]; rfl⟩ (by have := HM.out; unfold maxLen; omega) (by have := HM.out; omega) (by have := hbx1.out.lt; simp; omega) ?_; intro g6 c6 w6 ho6 hb6; rw [← HM.out] at ho6 ⊢; have HO6 := hid ho6; have HB6 := hid (Below.trans (show Below (w.heap.size + 1) wb _ from by (repeat (first | exact Below.refl _ _ | exact below_drewN _ | refine Below.drew ?_ | refine Below.alloc ?_ (by first | omega | (simp; done) | (simp; omega)) _ | refine Below.setCell ?_ (by first | (simp; done) | (simp; omega)) _ | refine below_drewN' ?_ _))) hb6); clear ho6 hb6)
                            go_roundw
                            case rel => exact ⟨i + 1, l2 ++ [⟨(c : Int), (c : Int), g c⟩], by go_num, by omega, by have := HO6.out; rw [HY.out] at this; exact this, by rw [HCI.out.2]; exact hr.out, hbx1.out.below HB6.out (by omega), hbel1.out.trans (HB6.out.mono (by omega))⟩
                            case measure => simp [intOf]; omega
                      · have hr := hid (HAPP.out (fun h => ht (by rw [HCM.out]; exact h.2.1)))
                        have htb : (rt == cm) = false := by simpa using ht
                        clear ht
                        rcases Nat.lt_or_ge 2001 (m + 1) with hbk | hbk
                        · have hsk := hid (show URp g (256 * (k + 1)) (l2 ++ [(⟨(c : Int), (c : Int), g c⟩ : Rg)]) from hr.out.skip (by rw [List.length_append]; have := HM.out; simp only [List.length_cons, List.length_nil]; omega) (by have := HQK.out; have := HCI.out; omega))
                          go_wp2_with (at_builtin; refine wpList_appG _ rfl _ _ 22 rfl (w.heap.size + 1) 43 24 i0 (.agg #[.int .i64 0, .int .i64 0, .int .i64 0]) Try.underlying22 hi0 hz0 hz1 hz2 rfl _ l2 rfl (hown1.out.below (by (repeat (first | exact Below.refl _ _ | exact below_drewN _ | refine Below.drew ?_ | refine Below.alloc ?_ (by first | omega | (simp; done) | (simp; omega)) _ | refine Below.setCell ?_ (by first | (simp; done) | (simp; omega)) _ | refine below_drewN' ?_ _)))) wb.heap.size ⟨(c : Int), (c : Int), y⟩ rfl ⟨by rw [cell_of_row _ wb.heap.size 0 _ 43 (0, 0) (heap_alloc_new wb _)]; rfl, by rw [cell_of_row _ wb.heap.size 1 _ 43 (0, 0) (heap_alloc_new wb _)]; rfl, by rw [cell_of_row _ wb.heap.size 2 _ 43 (0, 0) (heap_alloc_new wb _)]; rfl⟩ (by have := HM.out; unfold maxLen; omega) (by have := HM.out; omega) (by have := hbx1.out.lt; simp; omega) ?_; intro g6 c6 w6 ho6 hb6; rw [← HM.out] at ho6 ⊢; have HO6 := hid ho6; have HB6 := hid (Below.trans (show Below (w.heap.size + 1) wb _ from by (repeat (first | exact Below.refl _ _ | exact below_drewN _ | refine Below.drew ?_ | refine Below.alloc ?_ (by first | omega | (simp; done) | (simp; omega)) _ | refine Below.setCell ?_ (by first | (simp; done) | (simp; omega)) _ | refine below_drewN' ?_ _))) hb6); clear ho6 hb6)
                          go_roundw
                          case rel => exact ⟨k + 1, l2 ++ [(⟨(c : Int), (c : Int), g c⟩ : Rg)], by go_num, by omega, by have := HO6.out; rw [HY.out] at this; exact this, hsk.out, hbx1.out.below HB6.out (by omega), hbel1.out.trans (HB6.out.mono (by omega)), hidxn.out⟩
                          case measure => simp [intOf]; omega
                        · go_wp2_with (at_builtin; refine wpList_appG _ rfl _ _ 22 rfl (w.heap.size + 1) 43 24 i0 (.agg #[.int .i64 0, .int .i64 0, .int .i64 0]) Try.underlying22 hi0 hz0 hz1 hz2 rfl _ l2 rfl (hown1.out.below (by (repeat (first | exact Below.refl _ _ | exact below_drewN _ | refine Below.drew ?_ | refine Below.alloc ?_ (by first | omega | (simp; done) | (simp; omega)) _ | refine Below.setCell ?_ (by first | (simp; done) | (simp; omega)) _ | refine below_drewN' ?_ _)))) wb.heap.size ⟨(c : Int), (c : Int), y⟩ rfl ⟨by rw [cell_of_row _ wb.heap.size 0 _ 43 (0, 0) (heap_alloc_new wb _)]; rfl, by rw [cell_of_row _ wb.heap.size 1 _ 43 (0, 0) (heap_alloc_new wb _)]; rfl, by rw [cell_of_row _ wb.heap.size 2 _ 43 (0, 0) (heap_alloc_new wb _)]; rfl⟩ (by have := HM.out; unfold maxLen; omega) (by have := HM.out; omega) (by have := hbx1.out.lt; simp; omega) ?_; intro g6 c6 w6 ho6 hb6; rw [← HM.out] at ho6 ⊢; have HO6 := hid ho6; have HB6 := hid (Below.trans (show Below (w.heap.size + 1) wb _ from by (repeat (first | exact Below.refl _ _ | exact below_drewN _ | refine Below.drew ?_ | refine Below.alloc ?_ (by first | omega | (simp; done) | (simp; omega)) _ | refine Below.setCell ?_ (by first | (simp; done) | (simp; omega)) _ | refine below_drewN' ?_ _))) hb6); clear ho6 hb6)
                          go_roundw
                          case rel => exact ⟨i + 1, l2 ++ [⟨(c : Int), (c : Int), g c⟩], by go_num, by omega, by have := HO6.out; rw [HY.out] at this; exact this, by rw [HCI.out.2]; exact hr.out, hbx1.out.below HB6.out (by omega), hbel1.out.trans (HB6.out.mono (by omega))⟩
                          case measure => simp [intOf]; omega
                · obtain rfl : i = 256 := by omega
                  go_wp2_with (fail)
                  go_roundw
                  case rel => exact ⟨k + 1, l2, by go_num, by omega, hown.out, by rw [show 256 * (k + 1) = k0 + 256 by have := HQK.out; omega]; exact hur.out, hbx.out, hbel.out, hidxn.out⟩
                  case measure => simp [intOf]; omega
            · rw [decide_eq_false hx] at QA
              have hr := hid (HBAD.out hx)
              clear hx HNX HBAD
              go_wp2_with (fail)
              go_quiet (first | (go_at_call 27; with_reducible exact QA.out _))
              go_wp2_with (fail)
              go_ret2
              exact ⟨_, _, rfl, told_none hr.out, below_drewN' hbel.out _⟩
          · obtain rfl : k = 4352 := by omega
            have hdone := hur.out.done
            have hok : Hid (unpOk ix bl) := hid ⟨HN.out.1.symm, by rw [← HN.out.2, HNB.out.1]; omega, fun i hi => hall.out i (by have := HN.out.2; omega), fun j hj => by
              rw [← HN.out.2, ← HNB.out.2]
              exact hidx.out j (by have := HN.out.1; omega)⟩
            obtain ⟨al, cl, hlv⟩ := hown.out.form
            by_cases hbig : 2000 < l.length
            · have hr := hid (unpackS_none (ix := ix) (bl := bl) (fun hh => by
                have := hdone.1.2 (by rw [HG.out]; exact hh.2)
                omega))
              obtain ⟨ll, hll⟩ : ∃ ll, ll = l.length := ⟨_, rfl⟩
              rw [← hll] at hlv hbig
              subst hlv
              have hlm : ll ≤ 1114112 := by have := hur.out.1; omega
              clear hdone hll
              go_wp2_with (fail)
              go_ret2
              exact ⟨_, _, rfl, told_none hr.out, hbel.out⟩
            · have hr := hid (unpackS_some hok.out (by rw [← HG.out]; exact hdone.1.1 (by omega)))
              have hle := hid (hdone.2 (by omega))
              obtain ⟨ll, hll⟩ : ∃ ll, ll = l.length := ⟨_, rfl⟩
              rw [← hll] at hlv hbig
              subst hlv
              clear hdone hll
              go_wp2_with (fail)
              go_ret2
              exact ⟨_, _, rfl, told_some hr.out (by rw [← HG.out, ← hle.out]; exact hown.out.mono (by omega)), hbel.out⟩
  · have hr := hid (unpackS_none (ix := ix) (bl := bl) (fun hh => hlen ⟨by rw [HN.out.1]; exact hh.1.1, by rw [HN.out.2]; exact hh.1.2.1⟩))
    go_enter Try.func13, Try.ntmps13
    by_cases hl1 : n1 = 4352
    · subst hl1
      have hl2 : ((n2 : Int) % 256 != 0) = true := by simp; omega
      clear hlen
      go_wp2_with (fail)
      go_ret2
      exact ⟨_, _, rfl, told_none hr.out, by (repeat (first | exact Below.refl _ _ | exact below_drewN _ | refine Below.drew ?_ | refine Below.alloc ?_ (by first | omega | (simp; done) | (simp; omega)) _ | refine Below.setCell ?_ (by first | (simp; done) | (simp; omega)) _ | refine below_drewN' ?_ _))⟩
    · have hl3 : ((n1 : Int) != 4352) = true := by simp; omega
      clear hlen hl1
      go_wp2_with (fail)
      go_ret2
      exact ⟨_, _, rfl, told_none hr.out, by (repeat (first | exact Below.refl _ _ | exact below_drewN _ | refine Below.drew ?_ | refine Below.alloc ?_ (by first | omega | (simp; done) | (simp; omega)) _ | refine Below.setCell ?_ (by first | (simp; done) | (simp; omega)) _ | refine below_drewN' ?_ _))⟩
end Go.Proofs.Ytlngnmcflooccaa
