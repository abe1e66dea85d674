/- Several texts in one: NormOk. -/
import Derived.Test.YtidjjaginindoaaGreatPk20
import Derived.Test.YtidjjaginindoaaGreatPk14
import Derived.Test.YtidjjaginindoaaGreatPk3
/-! NormOk -/
namespace Go.Proofs.YtidjjaginindoaaGreat
open Go.RowKit

theorem apart_inI {k : Bool} {s : List Int} (hi : s.all inI = true) : (apartS k s).all inI = true :=
  List.all_eq_true.2 fun x hx => List.all_eq_true.1 (allS_inI hi) x (put_memG hx)
theorem apart_len (k : Bool) (s : List Int) : (apartS k s).length = (allS k s).length := putO_len _
theorem form_len (k : Bool) (s : List Int) : (formS k s).length ≤ (allS k s).length := by
  have := comp_len (cl := classS) (two := twoS) (apartS k s)
  rw [apart_len] at this
  exact this
theorem form_inI {k : Bool} {s : List Int} (hi : s.all inI = true) : (formS k s).all inI = true :=
  List.all_eq_true.2 (comp_all (cl := classS) (R := fun x => inI x = true) (fun _ _ h => two_inI h) (apartS k s) (fun x hx => List.all_eq_true.1 (apart_inI hi) x hx))
/-- so many numbers that all calls answer -/
def FitsK (k : Bool) (s : List Int) : Prop := s.all inI = true ∧ s.length ≤ 1000000 ∧ (allS k s).length ≤ 1000000
theorem fits_small {k : Bool} {s : List Int} (hi : s.all inI = true) (h : s.length ≤ 400) : FitsK k s := ⟨hi, by omega, allS_small2 (by omega)⟩
theorem fits_of {k : Bool} {s t : List Int} (hi : t.all inI = true) (hl : t.length ≤ 1000000) (ha : apartS k t = apartS k s) (hs : (allS k s).length ≤ 1000000) : FitsK k t :=
  ⟨hi, hl, by rw [← apart_len, ha, apart_len]; exact hs⟩
theorem fits_form {k : Bool} {s : List Int} (h : FitsK k s) : FitsK k (formS k s) := fits_of (form_inI h.1) (Nat.le_trans (form_len k s) h.2.2) (apart_form h.1) h.2.2
theorem fits_apart {k : Bool} {s : List Int} (h : FitsK k s) : FitsK k (apartS k s) := fits_of (apart_inI h.1) (by rw [apart_len]; exact h.2.2) (apart_apart h.1) h.2.2
theorem fits_true_form {s : List Int} (h : FitsK false s) (h2 : FitsK true s) : FitsK true (formS false s) := fits_of (form_inI h.1) (Nat.le_trans (form_len false s) h.2.2) (apart_true_form h.1) h2.2.2
theorem fits_true_apart {s : List Int} (h : FitsK false s) (h2 : FitsK true s) : FitsK true (apartS false s) := fits_of (apart_inI h.1) (by rw [apart_len]; exact h.2.2) (apart_true_apart h.1) h2.2.2
theorem fits_false_form {s : List Int} (h : FitsK true s) : FitsK false (formS true s) := by
  refine ⟨form_inI h.1, Nat.le_trans (form_len true s) h.2.2, ?_⟩
  have e : apartS false (formS true s) = apartS true s := by
    show putO classS (allS false (compG classS twoS (apartS true s))) = _
    rw [comp_apart false (apart_ord true s), allS_plain (fun x hx => plain_down (apart_plain h.1 x hx))]
    exact put_same (apart_ord true s)
  rw [← apart_len, e, apart_len]
  exact h.2.2

def NApartOk : Prop := ∀ (k : Bool) (v : Value) (s : List Int) (w : World), Sl .i64 w v s → FitsK k s → Calls Tryz.prog 48 #[v, .bool k] w fun e w' => ∃ x, e = .returned x ∧ Own .i64 3 w.heap.size w' x (apartS k s) ∧ Below w.heap.size w w'
def NFormOk : Prop := ∀ (k : Bool) (v : Value) (s : List Int) (w : World), Sl .i64 w v s → FitsK k s → Calls Tryz.prog 21 #[v, .bool k] w fun e w' => ∃ x, e = .returned x ∧ Own .i64 3 w.heap.size w' x (formS k s) ∧ Below w.heap.size w w'
set_option maxRecDepth 1000000 in
theorem w11_form : formS true [64257, 101, 769] = [102, 105, 233] := by decide +kernel
set_option maxRecDepth 1000000 in
theorem w11_yes : quickS true [65] = true := by decide +kernel
set_option maxRecDepth 1000000 in
theorem w11_no : quickS true [64257] = false := by decide +kernel
set_option maxRecDepth 1000000 in
theorem w11_same : eqL (formS false [8491]) (formS false [65, 778]) = true := by decide +kernel

end Go.Proofs.YtidjjaginindoaaGreat
