/- Contract of package well's head: a value's header, or its error. -/
import Derived.Test.YtgjjncoelbhpeaaWell1
namespace Go.Proofs.Ytgjjncoelbhpeaa
open Go.RowKit

def headErr (d : Int) (ys : List Int) : Int := if 32 < d then 6 else headE ys
def headHd (d : Int) (ys : List Int) : Hd := if headErr d ys = 0 then (rd ys).1 else Hd.zero

set_option maxHeartbeats 1000000 in
theorem wellHead (v : Value) (ys : List Int) (d : Int) (w : World) (h : Sl .u8 w v ys) (hu : U8 ys) :
    Calls Try.prog 33 #[v, .int .i64 d] w fun e w' => e = .returned (.tuple #[(headHd d ys).val, .int .i64 (headErr d ys)]) ∧ Below w.heap.size w w' := by
  have HS := hid h
  have hlx := h.len
  by_cases hd : 32 < d
  · have hE : headErr d ys = 6 := by unfold headErr; rw [if_pos hd]
    have hH : headHd d ys = Hd.zero := by unfold headHd; rw [hE]; rfl
    rw [hE, hH]
    obtain ⟨a, cap, rfl, -, -, -⟩ := h
    unfold Hd.val Hd.zero
    dsimp only
    go_enter Try.func33, Try.ntmps33
    go_wp2
    refine bodyPost_ret (results_hd1 rfl rfl (Box.made w 35 [.int .i64 0, .int .i64 0, .bool false, .int .i64 0, .int .i64 0])) rfl ⟨rfl, by (repeat (first | exact Below.refl _ _ | exact below_drewN _ | refine Below.drew ?_ | refine Below.alloc ?_ (by simp) _ | refine Below.setCell ?_ (by simp) _ | refine below_drewN' ?_ _))⟩
  · have hdE : headErr d ys = headE ys := by unfold headErr; rw [if_neg hd]
    have hb := rd_bd ys hu
    have he := rd_err ys
    have ho : headE ys = headE ys := rfl
    conv at ho => rhs; unfold headE
    obtain ⟨⟨cls, tag, cons, len, size⟩, E, hrd⟩ : ∃ h E, rd ys = (h, E) := ⟨_, _, rfl⟩
    have HR := hid hrd
    have hdH : headHd d ys = if headE ys = 0 then (rd ys).1 else Hd.zero := by unfold headHd; rw [hdE]
    rw [hrd] at hb he ho hdH
    dsimp only at hb he ho hdH
    clear hrd
    by_cases hE : E = 0
    · subst hE
      obtain ⟨hok, s0, s1⟩ := hb rfl
      rw [if_neg (by simp)] at ho
      have l0 : 0 ≤ len ∧ len ≤ 2147483647 := hok.2.2
      clear he hb hok
      obtain ⟨a, cap, rfl, -, -, -⟩ := h
      by_cases hct : cls = 0 ∧ tag = 0
      · obtain ⟨rfl, rfl⟩ := hct
        rw [if_pos ⟨rfl, rfl⟩] at ho
        rw [hdH, hdE, ho, if_neg (by decide)]
        clear ho hdH hdE
        unfold Hd.val Hd.zero
        dsimp only
        go_enter Try.func33, Try.ntmps33
        go_wp2_with (go_at_call 22; refine (readHead' _ ys _ (HS.out.below (by (repeat (first | exact Below.refl _ _ | exact below_drewN _ | refine Below.drew ?_ | refine Below.alloc ?_ (by simp) _ | refine Below.setCell ?_ (by simp) _ | refine below_drewN' ?_ _)))) hu HR.out).mono ?_; rintro e w1 ⟨rfl, hb1⟩; have HX1 := hid (Box.below (Box.made w 35 [.int .i64 0, .int .i64 0, .bool false, .int .i64 0, .int .i64 0]) hb1 (by simp)); obtain ⟨k0, k1, k2, k3, k4⟩ := HX1.out.five; obtain ⟨f0, f1, f2, f3, f4⟩ := HX1.out.ice5; have hz1 := hb1.size; simp at hz1; have hlt1 := HX1.out.lt; have HB1 := hid (Below.trans (show Below w.heap.size w _ by (repeat (first | exact Below.refl _ _ | exact below_drewN _ | refine Below.drew ?_ | refine Below.alloc ?_ (by simp) _ | refine Below.setCell ?_ (by simp) _ | refine below_drewN' ?_ _))) (hb1.mono (by simp))); clear hb1)
        refine bodyPost_ret (results_hd1 rfl rfl ((HX1.out.store5 (.int .i64 0) (.int .i64 0) (.bool false) (.int .i64 0) (.int .i64 0)).alloc _)) rfl ⟨rfl, (below_store5 HB1.out (Nat.le_refl _)).alloc (by simp [World.setCell]; omega) _⟩
      · rw [if_neg hct] at ho
        by_cases hr : rightS ⟨cls, tag, cons, len, size⟩ = true
        · rw [if_neg (by simp [hr])] at ho
          by_cases hL : (ys.length : Int) - size < len
          · rw [if_pos hL] at ho
            rw [hdH, hdE, ho, if_neg (by decide)]
            clear ho hdH hdE
            unfold Hd.val Hd.zero
            dsimp only
            by_cases hc : cls = 0
            · have htt : (tag == 0) = false := by simp; omega
              subst hc
              go_enter Try.func33, Try.ntmps33
              go_wp2_with (first | (go_at_call 22; refine (readHead' _ ys _ (HS.out.below (by (repeat (first | exact Below.refl _ _ | exact below_drewN _ | refine Below.drew ?_ | refine Below.alloc ?_ (by simp) _ | refine Below.setCell ?_ (by simp) _ | refine below_drewN' ?_ _)))) hu HR.out).mono ?_; rintro e w1 ⟨rfl, hb1⟩; have HX1 := hid (Box.below (Box.made w 35 [.int .i64 0, .int .i64 0, .bool false, .int .i64 0, .int .i64 0]) hb1 (by simp)); obtain ⟨k0, k1, k2, k3, k4⟩ := HX1.out.five; obtain ⟨f0, f1, f2, f3, f4⟩ := HX1.out.ice5; have hz1 := hb1.size; simp at hz1; have hlt1 := HX1.out.lt; have HB1 := hid (Below.trans (show Below w.heap.size w _ by (repeat (first | exact Below.refl _ _ | exact below_drewN _ | refine Below.drew ?_ | refine Below.alloc ?_ (by simp) _ | refine Below.setCell ?_ (by simp) _ | refine below_drewN' ?_ _))) (hb1.mono (by simp))); clear hb1) | (go_at_call 34; refine (wellRight ⟨0, tag, cons, len, size⟩ _).mono ?_; rw [hr]; rintro e w2 ⟨rfl, hb2⟩; have HX2 := hid (Box.below (HX1.out.alloc _) hb2 (by have := HX1.out.lt; simp; omega)); have HH2 := hid (Box.below (Box.made w1 35 [.int .i64 0, .int .i64 tag, .bool cons, .int .i64 len, .int .i64 size]) hb2 (by simp)); have HB2 := hid (Below.trans (Below.alloc HB1.out (by omega) _) (hb2.mono (by simp; omega))); obtain ⟨k0, k1, k2, k3, k4⟩ := HX2.out.five; obtain ⟨f0, f1, f2, f3, f4⟩ := HX2.out.ice5; obtain ⟨m0, m1, m2, m3, m4⟩ := HH2.out.five; obtain ⟨n0, n1, n2, n3, n4⟩ := HH2.out.ice5))
              refine bodyPost_ret (results_hd1 rfl rfl (HX2.out.store5 (.int .i64 0) (.int .i64 0) (.bool false) (.int .i64 0) (.int .i64 0))) rfl ⟨rfl, below_store5 HB2.out (Nat.le_refl _)⟩
            · have hcc : (cls == 0) = false := by simp [hc]
              go_enter Try.func33, Try.ntmps33
              go_wp2_with (first | (go_at_call 22; refine (readHead' _ ys _ (HS.out.below (by (repeat (first | exact Below.refl _ _ | exact below_drewN _ | refine Below.drew ?_ | refine Below.alloc ?_ (by simp) _ | refine Below.setCell ?_ (by simp) _ | refine below_drewN' ?_ _)))) hu HR.out).mono ?_; rintro e w1 ⟨rfl, hb1⟩; have HX1 := hid (Box.below (Box.made w 35 [.int .i64 0, .int .i64 0, .bool false, .int .i64 0, .int .i64 0]) hb1 (by simp)); obtain ⟨k0, k1, k2, k3, k4⟩ := HX1.out.five; obtain ⟨f0, f1, f2, f3, f4⟩ := HX1.out.ice5; have hz1 := hb1.size; simp at hz1; have hlt1 := HX1.out.lt; have HB1 := hid (Below.trans (show Below w.heap.size w _ by (repeat (first | exact Below.refl _ _ | exact below_drewN _ | refine Below.drew ?_ | refine Below.alloc ?_ (by simp) _ | refine Below.setCell ?_ (by simp) _ | refine below_drewN' ?_ _))) (hb1.mono (by simp))); clear hb1) | (go_at_call 34; refine (wellRight ⟨cls, tag, cons, len, size⟩ _).mono ?_; rw [hr]; rintro e w2 ⟨rfl, hb2⟩; have HX2 := hid (Box.below (HX1.out.alloc _) hb2 (by have := HX1.out.lt; simp; omega)); have HH2 := hid (Box.below (Box.made w1 35 [.int .i64 cls, .int .i64 tag, .bool cons, .int .i64 len, .int .i64 size]) hb2 (by simp)); have HB2 := hid (Below.trans (Below.alloc HB1.out (by omega) _) (hb2.mono (by simp; omega))); obtain ⟨k0, k1, k2, k3, k4⟩ := HX2.out.five; obtain ⟨f0, f1, f2, f3, f4⟩ := HX2.out.ice5; obtain ⟨m0, m1, m2, m3, m4⟩ := HH2.out.five; obtain ⟨n0, n1, n2, n3, n4⟩ := HH2.out.ice5))
              refine bodyPost_ret (results_hd1 rfl rfl (HX2.out.store5 (.int .i64 0) (.int .i64 0) (.bool false) (.int .i64 0) (.int .i64 0))) rfl ⟨rfl, below_store5 HB2.out (Nat.le_refl _)⟩
          · rw [if_neg hL] at ho
            rw [hdH, hdE, ho, if_pos rfl]
            clear ho hdH hdE
            unfold Hd.val
            dsimp only
            by_cases hc : cls = 0
            · have htt : (tag == 0) = false := by simp; omega
              subst hc
              go_enter Try.func33, Try.ntmps33
              go_wp2_with (first | (go_at_call 22; refine (readHead' _ ys _ (HS.out.below (by (repeat (first | exact Below.refl _ _ | exact below_drewN _ | refine Below.drew ?_ | refine Below.alloc ?_ (by simp) _ | refine Below.setCell ?_ (by simp) _ | refine below_drewN' ?_ _)))) hu HR.out).mono ?_; rintro e w1 ⟨rfl, hb1⟩; have HX1 := hid (Box.below (Box.made w 35 [.int .i64 0, .int .i64 0, .bool false, .int .i64 0, .int .i64 0]) hb1 (by simp)); obtain ⟨k0, k1, k2, k3, k4⟩ := HX1.out.five; obtain ⟨f0, f1, f2, f3, f4⟩ := HX1.out.ice5; have hz1 := hb1.size; simp at hz1; have hlt1 := HX1.out.lt; have HB1 := hid (Below.trans (show Below w.heap.size w _ by (repeat (first | exact Below.refl _ _ | exact below_drewN _ | refine Below.drew ?_ | refine Below.alloc ?_ (by simp) _ | refine Below.setCell ?_ (by simp) _ | refine below_drewN' ?_ _))) (hb1.mono (by simp))); clear hb1) | (go_at_call 34; refine (wellRight ⟨0, tag, cons, len, size⟩ _).mono ?_; rw [hr]; rintro e w2 ⟨rfl, hb2⟩; have HX2 := hid (Box.below (HX1.out.alloc _) hb2 (by have := HX1.out.lt; simp; omega)); have HH2 := hid (Box.below (Box.made w1 35 [.int .i64 0, .int .i64 tag, .bool cons, .int .i64 len, .int .i64 size]) hb2 (by simp)); have HB2 := hid (Below.trans (Below.alloc HB1.out (by omega) _) (hb2.mono (by simp; omega))); obtain ⟨k0, k1, k2, k3, k4⟩ := HX2.out.five; obtain ⟨f0, f1, f2, f3, f4⟩ := HX2.out.ice5; obtain ⟨m0, m1, m2, m3, m4⟩ := HH2.out.five; obtain ⟨n0, n1, n2, n3, n4⟩ := HH2.out.ice5))
              refine bodyPost_ret (results_hd1 rfl rfl (HX2.out.store5 (.int .i64 0) (.int .i64 tag) (.bool cons) (.int .i64 len) (.int .i64 size))) rfl ⟨rfl, below_store5 HB2.out (Nat.le_refl _)⟩
            · have hcc : (cls == 0) = false := by simp [hc]
              go_enter Try.func33, Try.ntmps33
              go_wp2_with (first | (go_at_call 22; refine (readHead' _ ys _ (HS.out.below (by (repeat (first | exact Below.refl _ _ | exact below_drewN _ | refine Below.drew ?_ | refine Below.alloc ?_ (by simp) _ | refine Below.setCell ?_ (by simp) _ | refine below_drewN' ?_ _)))) hu HR.out).mono ?_; rintro e w1 ⟨rfl, hb1⟩; have HX1 := hid (Box.below (Box.made w 35 [.int .i64 0, .int .i64 0, .bool false, .int .i64 0, .int .i64 0]) hb1 (by simp)); obtain ⟨k0, k1, k2, k3, k4⟩ := HX1.out.five; obtain ⟨f0, f1, f2, f3, f4⟩ := HX1.out.ice5; have hz1 := hb1.size; simp at hz1; have hlt1 := HX1.out.lt; have HB1 := hid (Below.trans (show Below w.heap.size w _ by (repeat (first | exact Below.refl _ _ | exact below_drewN _ | refine Below.drew ?_ | refine Below.alloc ?_ (by simp) _ | refine Below.setCell ?_ (by simp) _ | refine below_drewN' ?_ _))) (hb1.mono (by simp))); clear hb1) | (go_at_call 34; refine (wellRight ⟨cls, tag, cons, len, size⟩ _).mono ?_; rw [hr]; rintro e w2 ⟨rfl, hb2⟩; have HX2 := hid (Box.below (HX1.out.alloc _) hb2 (by have := HX1.out.lt; simp; omega)); have HH2 := hid (Box.below (Box.made w1 35 [.int .i64 cls, .int .i64 tag, .bool cons, .int .i64 len, .int .i64 size]) hb2 (by simp)); have HB2 := hid (Below.trans (Below.alloc HB1.out (by omega) _) (hb2.mono (by simp; omega))); obtain ⟨k0, k1, k2, k3, k4⟩ := HX2.out.five; obtain ⟨f0, f1, f2, f3, f4⟩ := HX2.out.ice5; obtain ⟨m0, m1, m2, m3, m4⟩ := HH2.out.five; obtain ⟨n0, n1, n2, n3, n4⟩ := HH2.out.ice5))
              refine bodyPost_ret (results_hd1 rfl rfl (HX2.out.store5 (.int .i64 cls) (.int .i64 tag) (.bool cons) (.int .i64 len) (.int .i64 size))) rfl ⟨rfl, below_store5 HB2.out (Nat.le_refl _)⟩
        · have hr : rightS ⟨cls, tag, cons, len, size⟩ = false := by simpa using hr
          rw [if_pos hr] at ho
          rw [hdH, hdE, ho, if_neg (by decide)]
          clear ho hdH hdE
          unfold Hd.val Hd.zero
          dsimp only
          by_cases hc : cls = 0
          · have htt : (tag == 0) = false := by simp; omega
            subst hc
            go_enter Try.func33, Try.ntmps33
            go_wp2_with (first | (go_at_call 22; refine (readHead' _ ys _ (HS.out.below (by (repeat (first | exact Below.refl _ _ | exact below_drewN _ | refine Below.drew ?_ | refine Below.alloc ?_ (by simp) _ | refine Below.setCell ?_ (by simp) _ | refine below_drewN' ?_ _)))) hu HR.out).mono ?_; rintro e w1 ⟨rfl, hb1⟩; have HX1 := hid (Box.below (Box.made w 35 [.int .i64 0, .int .i64 0, .bool false, .int .i64 0, .int .i64 0]) hb1 (by simp)); obtain ⟨k0, k1, k2, k3, k4⟩ := HX1.out.five; obtain ⟨f0, f1, f2, f3, f4⟩ := HX1.out.ice5; have hz1 := hb1.size; simp at hz1; have hlt1 := HX1.out.lt; have HB1 := hid (Below.trans (show Below w.heap.size w _ by (repeat (first | exact Below.refl _ _ | exact below_drewN _ | refine Below.drew ?_ | refine Below.alloc ?_ (by simp) _ | refine Below.setCell ?_ (by simp) _ | refine below_drewN' ?_ _))) (hb1.mono (by simp))); clear hb1) | (go_at_call 34; refine (wellRight ⟨0, tag, cons, len, size⟩ _).mono ?_; rw [hr]; rintro e w2 ⟨rfl, hb2⟩; have HX2 := hid (Box.below (HX1.out.alloc _) hb2 (by have := HX1.out.lt; simp; omega)); have HH2 := hid (Box.below (Box.made w1 35 [.int .i64 0, .int .i64 tag, .bool cons, .int .i64 len, .int .i64 size]) hb2 (by simp)); have HB2 := hid (Below.trans (Below.alloc HB1.out (by omega) _) (hb2.mono (by simp; omega))); obtain ⟨k0, k1, k2, k3, k4⟩ := HX2.out.five; obtain ⟨f0, f1, f2, f3, f4⟩ := HX2.out.ice5; obtain ⟨m0, m1, m2, m3, m4⟩ := HH2.out.five; obtain ⟨n0, n1, n2, n3, n4⟩ := HH2.out.ice5))
            refine bodyPost_ret (results_hd1 rfl rfl (HX2.out.store5 (.int .i64 0) (.int .i64 0) (.bool false) (.int .i64 0) (.int .i64 0))) rfl ⟨rfl, below_store5 HB2.out (Nat.le_refl _)⟩
          · have hcc : (cls == 0) = false := by simp [hc]
            go_enter Try.func33, Try.ntmps33
            go_wp2_with (first | (go_at_call 22; refine (readHead' _ ys _ (HS.out.below (by (repeat (first | exact Below.refl _ _ | exact below_drewN _ | refine Below.drew ?_ | refine Below.alloc ?_ (by simp) _ | refine Below.setCell ?_ (by simp) _ | refine below_drewN' ?_ _)))) hu HR.out).mono ?_; rintro e w1 ⟨rfl, hb1⟩; have HX1 := hid (Box.below (Box.made w 35 [.int .i64 0, .int .i64 0, .bool false, .int .i64 0, .int .i64 0]) hb1 (by simp)); obtain ⟨k0, k1, k2, k3, k4⟩ := HX1.out.five; obtain ⟨f0, f1, f2, f3, f4⟩ := HX1.out.ice5; have hz1 := hb1.size; simp at hz1; have hlt1 := HX1.out.lt; have HB1 := hid (Below.trans (show Below w.heap.size w _ by (repeat (first | exact Below.refl _ _ | exact below_drewN _ | refine Below.drew ?_ | refine Below.alloc ?_ (by simp) _ | refine Below.setCell ?_ (by simp) _ | refine below_drewN' ?_ _))) (hb1.mono (by simp))); clear hb1) | (go_at_call 34; refine (wellRight ⟨cls, tag, cons, len, size⟩ _).mono ?_; rw [hr]; rintro e w2 ⟨rfl, hb2⟩; have HX2 := hid (Box.below (HX1.out.alloc _) hb2 (by have := HX1.out.lt; simp; omega)); have HH2 := hid (Box.below (Box.made w1 35 [.int .i64 cls, .int .i64 tag, .bool cons, .int .i64 len, .int .i64 size]) hb2 (by simp)); have HB2 := hid (Below.trans (Below.alloc HB1.out (by omega) _) (hb2.mono (by simp; omega))); obtain ⟨k0, k1, k2, k3, k4⟩ := HX2.out.five; obtain ⟨f0, f1, f2, f3, f4⟩ := HX2.out.ice5; obtain ⟨m0, m1, m2, m3, m4⟩ := HH2.out.five; obtain ⟨n0, n1, n2, n3, n4⟩ := HH2.out.ice5))
            refine bodyPost_ret (results_hd1 rfl rfl (HX2.out.store5 (.int .i64 0) (.int .i64 0) (.bool false) (.int .i64 0) (.int .i64 0))) rfl ⟨rfl, below_store5 HB2.out (Nat.le_refl _)⟩
    · have hz := he hE
      rw [if_pos hE] at ho
      unfold Hd.zero at hz
      rw [hz] at HR
      have hE1 : (E != 0) = true := by simp [hE]
      rw [hdH, hdE, ho, if_neg hE]
      clear ho hb he hz hE hdH hdE
      unfold Hd.val Hd.zero
      dsimp only
      obtain ⟨a, cap, rfl, -, -, -⟩ := h
      go_enter Try.func33, Try.ntmps33
      go_wp2_with (go_at_call 22; refine (readHead' _ ys _ (HS.out.below (by (repeat (first | exact Below.refl _ _ | exact below_drewN _ | refine Below.drew ?_ | refine Below.alloc ?_ (by simp) _ | refine Below.setCell ?_ (by simp) _ | refine below_drewN' ?_ _)))) hu HR.out).mono ?_; rintro e w1 ⟨rfl, hb1⟩; have HX1 := hid (Box.below (Box.made w 35 [.int .i64 0, .int .i64 0, .bool false, .int .i64 0, .int .i64 0]) hb1 (by simp)); obtain ⟨k0, k1, k2, k3, k4⟩ := HX1.out.five; obtain ⟨f0, f1, f2, f3, f4⟩ := HX1.out.ice5; have hz1 := hb1.size; simp at hz1; have hlt1 := HX1.out.lt; have HB1 := hid (Below.trans (show Below w.heap.size w _ by (repeat (first | exact Below.refl _ _ | exact below_drewN _ | refine Below.drew ?_ | refine Below.alloc ?_ (by simp) _ | refine Below.setCell ?_ (by simp) _ | refine below_drewN' ?_ _))) (hb1.mono (by simp))); clear hb1)
      refine bodyPost_ret (results_hd1 rfl rfl ((HX1.out.store5 (.int .i64 0) (.int .i64 0) (.bool false) (.int .i64 0) (.int .i64 0)).alloc _)) rfl ⟨rfl, (below_store5 HB1.out (Nat.le_refl _)).alloc (by simp [World.setCell]; omega) _⟩

end Go.Proofs.Ytgjjncoelbhpeaa
