/- Contract of the document's own answer for a wrapped content. -/
import Derived.Test.YtgjjncoelbhpeaaRef1
namespace Go.Proofs.Ytgjjncoelbhpeaa
open Go.RowKit

theorem refWrap (c t : Int) (b : Bool) (v : Value) (xs : List Int) (w : World) (h : Sl .u8 w v xs) (hok : HdOk ⟨c, t, b, xs.length, 0⟩) (hl : xs.length ≤ 1000000000000) :
    Calls Try.prog 20 #[.int .i64 c, .int .i64 t, .bool b, v] w fun e w' => ∃ v', e = .returned v' ∧ Own .u8 5 w.heap.size w' v' (hdB ⟨c, t, b, xs.length, 0⟩ ++ xs) ∧ Below w.heap.size w w' := by
  have HS := hid h
  have hlh := hdB_len hok
  have HOK := hid hok
  clear hok
  obtain ⟨a, cap, rfl, -, -, -⟩ := h
  go_enter Try.func20, Try.ntmps20
  go_wp2_with (first
    | (go_at_call 27; refine (refHeadBytes ⟨c, t, b, xs.length, 0⟩ _ HOK.out).mono ?_; rintro e w1 ⟨v1, rfl, ho1, hb1⟩; have HO1 := hid ho1; have HB1 := hid hb1; have hz1 := hb1.size; clear ho1 hb1)
    | (at_builtin; refine wpList_app _ rfl _ _ 22 rfl .u8 w.heap.size 5 1 Try.underlying22 Try.infoU8 _ (hdB ⟨c, t, b, xs.length, 0⟩) xs rfl HO1.out _ rfl (HS.out.below HB1.out) (by unfold maxLen; simp; omega) (by simp; omega) (by first | omega | (simp; omega) | simp) ?_; intro v2 w2 ho2 hg2 hb2 hn2))
  go_ret
  exact ⟨_, rfl, ho2, HB1.out.trans hb2⟩

end Go.Proofs.Ytgjjncoelbhpeaa
