/- Several texts in one: CmpOk. -/
import Derived.Test.YtdncmdpacidgmaaPk22
import Derived.Test.YtdncmdpacidgmaaPk21
import Derived.Test.YtdncmdpacidgmaaPk5
/-! CmpOk -/
namespace Go.Proofs.Ytdncmdpacidgmaa
open Go.RowKit

def CTwoOk : Prop := ∀ (a b : Int) (w : World), I64n a → I64n b → Calls Try.prog 78 #[.int .i64 a, .int .i64 b] w fun e w' => e = .returned (.tuple #[.int .i64 (twoS a b).1, .bool (twoS a b).2]) ∧ Below w.heap.size w w'
def CAllOk : Prop := ∀ (v : Value) (s : List Int) (w : World), Sl .i64 w v s → s.all inI = true → s.length ≤ 1000000 → Calls Try.prog 30 #[v] w fun e w' => ∃ x, e = .returned x ∧ Own .i64 3 w.heap.size w' x (compG classS twoS s) ∧ Below w.heap.size w w'
theorem comp_inI {s : List Int} (hi : s.all inI = true) : (compG classS twoS s).all inI = true :=
  List.all_eq_true.2 (comp_all (cl := classS) (R := fun x => inI x = true) (fun _ _ h => two_inI h) s (fun x hx => List.all_eq_true.1 hi x hx))
theorem put_mem {cl : Int → Int} {s : List Int} {x : Int} (h : x ∈ putG cl s) : x ∈ s := by
  have key : ∀ (s acc : List Int), x ∈ putFrom cl s acc → x ∈ s ∨ x ∈ acc := fun s => by
    induction s with
    | nil => intro acc h; exact .inr h
    | cons y s ih =>
      intro acc h
      rcases ih _ h with h | h
      · exact .inl (List.mem_cons_of_mem _ h)
      · have k2 : ∀ acc : List Int, x ∈ insG cl y acc → x = y ∨ x ∈ acc := fun acc => by
          induction acc with
          | nil => intro h; exact .inl (by simpa [insG] using h)
          | cons z r ih2 =>
            intro h
            rw [insG] at h
            split at h
            · rcases List.mem_cons.1 h with h | h
              · exact .inr (by simp [h])
              · rcases ih2 h with h | h
                · exact .inl h
                · exact .inr (List.mem_cons_of_mem _ h)
            · rcases List.mem_cons.1 h with h | h
              · exact .inl h
              · exact .inr h
        rcases k2 acc h with h | h
        · exact .inl (by simp [h])
        · exact .inr h
  unfold putG at h
  rw [List.mem_reverse] at h
  rcases key s [] h with h | h
  · exact h
  · cases h
theorem put_inI {cl : Int → Int} {s : List Int} (hi : s.all inI = true) : (putG cl s).all inI = true :=
  List.all_eq_true.2 fun x hx => List.all_eq_true.1 hi x (put_mem hx)
set_option maxRecDepth 1000000 in
theorem w10_one : compG classS twoS [65, 803, 770] = [7852] := by decide +kernel
set_option maxRecDepth 1000000 in
theorem w10_two : compG classS twoS [4352, 4449, 4520] = [44033] := by decide +kernel
set_option maxRecDepth 1000000 in
theorem w10_three : compG classS twoS [65, 795, 803, 768] = [7840, 795, 768] := by decide +kernel

end Go.Proofs.Ytdncmdpacidgmaa
