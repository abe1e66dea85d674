/- Several texts in one: LawExact16. -/
import Derived.Test.YtniooeohklblhaaPk23
import Derived.Test.YtniooeohklblhaaPk29
/-! LawExact16 -/
namespace Go.Proofs.Ytniooeohklblhaa
open Go.RowKit
theorem refGetB16 (S : Nat) (s p : Int) (w : World) (h : SetsAt S w) : Calls Try.prog 9 #[.pointer (some ⟨S, 0, none⟩), .int .i64 s, .int .i64 p] w fun e w' => e = .returned (.tuple #[.int .i64 (getS16 s p).1, .bool (getS16 s p).2]) ∧ Below w.heap.size w w' := (refGet16 S s p w h).mono fun e w' h => by
  obtain ⟨h1, rfl⟩ := h
  exact ⟨h1, Below.refl _ _⟩
theorem refFindB16 (S : Nat) (s c : Int) (w : World) (h : SetsAt S w) : Calls Try.prog 11 #[.pointer (some ⟨S, 0, none⟩), .int .i64 s, .int .i64 c] w fun e w' => e = .returned (.tuple #[.int .i64 (findS16 s c).1, .bool (findS16 s c).2]) ∧ Below w.heap.size w w' := (refFind16 S s c w h).mono fun e w' h => by
  obtain ⟨h1, rfl⟩ := h
  exact ⟨h1, Below.refl _ _⟩
theorem refByFinalB16 (S : Nat) (f : Int) (wide : Bool) (w : World) (h : SetsAt S w) : Calls Try.prog 13 #[.pointer (some ⟨S, 0, none⟩), .int .i64 f, .bool wide] w fun e w' => e = .returned (.tuple #[.int .i64 (byFinS f wide).1, .bool (byFinS f wide).2]) ∧ Below w.heap.size w w' := (refByFinal16 S f wide w h).mono fun e w' h => by
  obtain ⟨h1, rfl⟩ := h
  exact ⟨h1, Below.refl _ _⟩
theorem refMarkB16 (S : Nat) (p : Int) (w : World) (h : SetsAt S w) : Calls Try.prog 15 #[.pointer (some ⟨S, 0, none⟩), .int .i64 p] w fun e w' => e = .returned (.tuple #[.int .i64 (markS p).1, .int .i64 (markS p).2.1, .bool (markS p).2.2]) ∧ Below w.heap.size w w' := (refMark16 S p w h).mono fun e w' h => by
  obtain ⟨h1, q, rfl⟩ := h
  exact ⟨h1, below_drewN q⟩
theorem refWideB16 (s : Int) (w : World) : Calls Try.prog 19 #[.int .i64 s] w fun e w' => e = .returned (.bool (s == 87)) ∧ Below w.heap.size w w' := (refWide16 s w).mono fun e w' h => by
  obtain ⟨h1, rfl⟩ := h
  exact ⟨h1, Below.refl _ _⟩

set_option maxRecDepth 10000 in
set_option maxHeartbeats 4000000 in
theorem walkExact16 (H : CsAll) (set place c : Int) (wide : Bool) (w : World) (hs : inI set = true) (hp : inI place = true) (hc : inI c = true) :
    Calls Try.prog 3 #[.int .i64 set, .int .i64 place, .int .i64 c, .bool wide] w fun e w' => e = .returned (.bool true) ∧ Below w.heap.size w w' := by
  have HW := hid (fun w => lawWakes16 H w)
  have HB0 := hid (Below.refl w.heap.size w)
  have A1 := hid (fun w => H.get set place w hs hp)
  have A2 := hid (fun S w h => refGetB16 S set place w h)
  generalize getS16 set place = x1 at A1 A2
  have A3 := hid (fun w => H.find set c w hs hc)
  have A4 := hid (fun S w h => refFindB16 S set c w h)
  generalize findS16 set c = x2 at A3 A4
  have A5 := hid (fun w => H.fin place wide w hp)
  have A6 := hid (fun S w h => refByFinalB16 S place wide w h)
  generalize byFinS place wide = x3 at A5 A6
  have A7 := hid (fun w => H.mark place w hp)
  have A8 := hid (fun S w h => refMarkB16 S place w h)
  generalize markS place = x4 at A7 A8
  have A9 := hid (fun w => H.acc c w hc)
  have A10 := hid (fun S w h => refAccent16 S c w h)
  generalize accS c = x5 at A9 A10
  have A11 := hid (fun w => H.wide set w)
  have A12 := hid (fun w => refWideB16 set w)
  generalize (set == (87 : Int)) = x6 at A11 A12
  obtain ⟨y1, z1⟩ := x1
  obtain ⟨y2, z2⟩ := x2
  obtain ⟨y3, z3⟩ := x3
  obtain ⟨y4, z4, u4⟩ := x4
  obtain ⟨y5, z5, u5⟩ := x5
  clear H hs hp hc
  go_enter Try.func3, Try.ntmps3
  go_wp2_with (first
    | (have _u := HB13; clear _u; go_at_call 20; refine (HW.out _).mono ?_; rintro e w14 ⟨rfl, hb14⟩; have HB14 := hid (HB13.out.trans (hb14.mono HB13.out.size)); clear hb14)
    | (have _u := HB12; clear _u; go_at_call 19; with_reducible refine (A12.out _).mono ?_; rintro e w13 ⟨rfl, hb13⟩; have HB13 := hid (HB12.out.trans (hb13.mono HB12.out.size)); clear hb13)
    | (have _u := HB11; clear _u; go_at_call 18; with_reducible refine (A11.out _).mono ?_; rintro e w12 ⟨rfl, hb12⟩; have HB12 := hid (HB11.out.trans (hb12.mono HB11.out.size)); clear hb12)
    | (have _u := HB10; clear _u; go_at_call 17; refine (A10.out _ _ S_S_10.out).mono ?_; rintro e w11 ⟨rfl, hb11⟩; have HB11 := hid (HB10.out.trans (hb11.mono HB10.out.size)); clear hb11)
    | (have _u := HB9; clear _u; go_at_call 16; with_reducible refine (A9.out _).mono ?_; rintro e w10 ⟨rfl, hb10⟩; have S_S_10 := hid (S_S_9.out.below hb10); have HB10 := hid (HB9.out.trans (hb10.mono HB9.out.size)); clear hb10)
    | (have _u := HB8; clear _u; go_at_call 15; refine (A8.out _ _ S_S_8.out).mono ?_; rintro e w9 ⟨rfl, hb9⟩; have S_S_9 := hid (S_S_8.out.below hb9); have HB9 := hid (HB8.out.trans (hb9.mono HB8.out.size)); clear hb9)
    | (have _u := HB7; clear _u; go_at_call 14; with_reducible refine (A7.out _).mono ?_; rintro e w8 ⟨rfl, hb8⟩; have S_S_8 := hid (S_S_7.out.below hb8); have HB8 := hid (HB7.out.trans (hb8.mono HB7.out.size)); clear hb8)
    | (have _u := HB6; clear _u; go_at_call 13; refine (A6.out _ _ S_S_6.out).mono ?_; rintro e w7 ⟨rfl, hb7⟩; have S_S_7 := hid (S_S_6.out.below hb7); have HB7 := hid (HB6.out.trans (hb7.mono HB6.out.size)); clear hb7)
    | (have _u := HB5; clear _u; go_at_call 12; with_reducible refine (A5.out _).mono ?_; rintro e w6 ⟨rfl, hb6⟩; have S_S_6 := hid (S_S_5.out.below hb6); have HB6 := hid (HB5.out.trans (hb6.mono HB5.out.size)); clear hb6)
    | (have _u := HB4; clear _u; go_at_call 11; refine (A4.out _ _ S_S_4.out).mono ?_; rintro e w5 ⟨rfl, hb5⟩; have S_S_5 := hid (S_S_4.out.below hb5); have HB5 := hid (HB4.out.trans (hb5.mono HB4.out.size)); clear hb5)
    | (have _u := HB3; clear _u; go_at_call 10; with_reducible refine (A3.out _).mono ?_; rintro e w4 ⟨rfl, hb4⟩; have S_S_4 := hid (S_S_3.out.below hb4); have HB4 := hid (HB3.out.trans (hb4.mono HB3.out.size)); clear hb4)
    | (have _u := HB2; clear _u; go_at_call 9; refine (A2.out _ _ S_S_2.out).mono ?_; rintro e w3 ⟨rfl, hb3⟩; have S_S_3 := hid (S_S_2.out.below hb3); have HB3 := hid (HB2.out.trans (hb3.mono HB2.out.size)); clear hb3)
    | (have _u := HB1; clear _u; go_at_call 8; with_reducible refine (A1.out _).mono ?_; rintro e w2 ⟨rfl, hb2⟩; have S_S_2 := hid (S_S_1.out.below hb2); have HB2 := hid (HB1.out.trans (hb2.mono HB1.out.size)); clear hb2)
    | (have _u := HB0; clear _u; go_at_call 7; refine (refAllSets _).mono ?_; rintro e w1 ⟨S, rfl, ht1, hb1⟩; have S_S_1 := hid ht1; clear ht1; have HB1 := hid (HB0.out.trans (hb1.mono HB0.out.size)); clear hb1))
  go_ret
  exact ⟨rfl, HB14.out⟩
end Go.Proofs.Ytniooeohklblhaa
