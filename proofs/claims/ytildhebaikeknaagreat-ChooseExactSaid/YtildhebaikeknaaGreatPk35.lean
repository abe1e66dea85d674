/- Several texts in one: ChOk. -/
import Derived.Test.YtildhebaikeknaaGreatPk23
import Derived.Test.YtildhebaikeknaaGreatPk1
/-! ChOk -/
namespace Go.Proofs.YtildhebaikeknaaGreat
open Go.RowKit

def firstR (s l : List Int) : Int × Int := if s = [] then (0, 10) else if firstS s l = 0 then (0, 14) else (firstS s l, 0)
def leastR (s l : List Int) : Int × Int := if s = [] then (0, 10) else if leastS s l = 0 then (0, 14) else (leastS s l, 0)
def SEncOk : Prop := ∀ (k : Int) (v : Value) (s : List Int) (w : World), inI k = true → Sl .i64 w v s → s.all inI = true → s.length ≤ 100000 → Calls Tryz.prog 17 #[.int .i64 k, v] w fun e w' => ∃ x, e = .returned (.tuple #[x, .int .i64 (encS k s).2.1, .int .i64 (encS k s).2.2]) ∧ Own .u8 5 w.heap.size w' x (encS k s).1 ∧ Below w.heap.size w w'
def CFitsOk : Prop := ∀ (k : Int) (v : Value) (s : List Int) (w : World), inI k = true → Sl .i64 w v s → s.all inI = true → s.length ≤ 100000 → Calls Tryz.prog 7 #[.int .i64 k, v] w fun e w' => e = .returned (.bool (fitB k s)) ∧ Below w.heap.size w w'
def CFirstOk : Prop := ∀ (u v : Value) (l s : List Int) (w : World), Sl .i64 w u l → Sl .i64 w v s → l.all inI = true → s.all inI = true → l.length ≤ 1000 → s.length ≤ 100000 → Calls Tryz.prog 5 #[u, v] w fun e w' => e = .returned (.tuple #[.int .i64 (firstR s l).1, .int .i64 (firstR s l).2]) ∧ Below w.heap.size w w'
def CLeastOk : Prop := ∀ (u v : Value) (l s : List Int) (w : World), Sl .i64 w u l → Sl .i64 w v s → l.all inI = true → s.all inI = true → l.length ≤ 1000 → s.length ≤ 100000 → Calls Tryz.prog 6 #[u, v] w fun e w' => e = .returned (.tuple #[.int .i64 (leastR s l).1, .int .i64 (leastR s l).2]) ∧ Below w.heap.size w w'
set_option maxRecDepth 100000 in
theorem w20_first : firstR [233] [19, 12] = (12, 0) := by decide +kernel
set_option maxRecDepth 100000 in
theorem w20_least : leastR [233] [28, 30] = (30, 0) := by decide +kernel
set_option maxRecDepth 100000 in
theorem w20_none : firstR [233] [19] = (0, 14) := by decide +kernel
theorem w20_fits : fitB 12 [] = false := by decide +kernel
theorem nilI (w : World) : Sl .i64 w (.slice none 0 0) [] := ⟨none, 0, rfl, Nat.le_refl _, by decide, .inl rfl⟩

set_option maxHeartbeats 4000000 in
theorem lawWakes20 (HF : CFitsOk) (H1 : CFirstOk) (H2 : CLeastOk) (w : World) : Calls Tryz.prog 9 #[] w fun e w' => e = .returned (.bool true) ∧ Below w.heap.size w w' := by
  have G1 := hid (fun u v w hu hv => H1 u v [19, 12] [233] w hu hv (by decide) (by decide) (by decide) (by decide))
  have G2 := hid (fun u v w hu hv => H2 u v [28, 30] [233] w hu hv (by decide) (by decide) (by decide) (by decide))
  have G3 := hid (fun u v w hu hv => H1 u v [19] [233] w hu hv (by decide) (by decide) (by decide) (by decide))
  have G4 := hid (fun w => HF 12 _ [] w (by decide) (nilI w) (by decide) (by decide))
  rw [w20_first] at G1
  rw [w20_least] at G2
  rw [w20_none] at G3
  rw [w20_fits] at G4
  have HB0 := hid (Below.refl w.heap.size w)
  clear HF H1 H2
  go_enter Tryz.func9, Tryz.ntmps9
  go_wp2_with (first
    | (have _u := HB3; clear _u; go_at_call 7; refine (G4.out _).mono ?_; rintro e w4 ⟨rfl, hb⟩; have HB4 := hid (HB3.out.trans (hb.mono HB3.out.size)); clear hb)
    | (have _u := HB2; clear _u; go_at_call 5; refine (G3.out _ _ _ ((lit_sl (w := w2) (xs := [19]) rfl rfl rfl (by simp)).below (by (repeat (first | exact Below.refl _ _ | exact below_drewN _ | refine Below.drew ?_ | refine Below.alloc ?_ (by first | omega | (simp; done) | (simp; omega)) _ | refine Below.setCell ?_ (by first | (simp; done) | (simp; omega)) _ | refine below_drewN' ?_ _)))) (lit_sl (by first | simp | rfl) rfl rfl (by simp))).mono ?_; rintro e w3 ⟨rfl, hb⟩; have HB3 := hid ((HB2.out.alloc HB2.out.size _).alloc (by have := HB2.out.size; simp; omega) _ |>.trans (hb.mono (by have := HB2.out.size; simp; omega))); clear hb)
    | (have _u := HB1; clear _u; go_at_call 6; refine (G2.out _ _ _ ((lit_sl (w := w1) (xs := [28, 30]) rfl rfl rfl (by simp)).below (by (repeat (first | exact Below.refl _ _ | exact below_drewN _ | refine Below.drew ?_ | refine Below.alloc ?_ (by first | omega | (simp; done) | (simp; omega)) _ | refine Below.setCell ?_ (by first | (simp; done) | (simp; omega)) _ | refine below_drewN' ?_ _)))) (lit_sl (by first | simp | rfl) rfl rfl (by simp))).mono ?_; rintro e w2 ⟨rfl, hb⟩; have HB2 := hid ((HB1.out.alloc HB1.out.size _).alloc (by have := HB1.out.size; simp; omega) _ |>.trans (hb.mono (by have := HB1.out.size; simp; omega))); clear hb)
    | (have _u := HB0; clear _u; go_at_call 5; refine (G1.out _ _ _ ((lit_sl (w := w) (xs := [19, 12]) rfl rfl rfl (by simp)).below (by (repeat (first | exact Below.refl _ _ | exact below_drewN _ | refine Below.drew ?_ | refine Below.alloc ?_ (by first | omega | (simp; done) | (simp; omega)) _ | refine Below.setCell ?_ (by first | (simp; done) | (simp; omega)) _ | refine below_drewN' ?_ _)))) (lit_sl (by first | simp | rfl) rfl rfl (by simp))).mono ?_; rintro e w1 ⟨rfl, hb⟩; have HB1 := hid ((HB0.out.alloc HB0.out.size _).alloc (by have := HB0.out.size; simp) _ |>.trans (hb.mono (by have := HB0.out.size; simp; omega))); clear hb))
  go_ret
  exact ⟨rfl, HB4.out⟩
end Go.Proofs.YtildhebaikeknaaGreat
