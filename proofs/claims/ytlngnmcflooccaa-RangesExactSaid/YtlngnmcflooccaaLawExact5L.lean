/- RangesExact answers true: whether a table is right, a number's value, the packed table, what any packed table says and is unpacked to are the document's. -/
import Derived.Test.YtlngnmcflooccaaWakes5
import Derived.Test.YtlngnmcflooccaaLater
import Derived.Test.YtlngnmcflooccaaKeepStage
import Derived.Test.YtlngnmcflooccaaKeepRngs
import Derived.Test.YtlngnmcflooccaaRefRng1
import Derived.Test.YtlngnmcflooccaaRefRng2
import Derived.Test.YtlngnmcflooccaaRefRng3
import Derived.Test.YtlngnmcflooccaaRefRng4
import Derived.Test.YtlngnmcflooccaaRefRng5
import Derived.Deep.RegionLaw
namespace Go.Proofs.Ytlngnmcflooccaa
open Go.RowKit

theorem RUnp.out2 {ix bl : List Int} {B : Nat} {w' : World} {v' : Value} {en : Int} (h : RUnp ix bl B w' v' en) (hu : unpackS ix bl = none) : en = 1 ∧ v' = .slice none 0 0 := by
  unfold RUnp at h
  rw [hu] at h
  exact h
theorem UnpTold.out {ix bl : List Int} {B : Nat} {w' : World} {v' : Value} {ok : Bool} {l : List Rg} (h : UnpTold ix bl B w' v' ok) (hu : unpackS ix bl = some l) : ok = true ∧ OwnG 43 B w' v' l := by
  unfold UnpTold at h
  rw [hu] at h
  exact h
theorem UnpTold.out2 {ix bl : List Int} {B : Nat} {w' : World} {v' : Value} {ok : Bool} (h : UnpTold ix bl B w' v' ok) (hu : unpackS ix bl = none) : ok = false ∧ v' = .slice none 0 0 := by
  unfold UnpTold at h
  rw [hu] at h
  exact h
theorem nil_sl (w : World) : Sl .i64 w (.slice none 0 0) [] := ⟨none, 0, rfl, Nat.le_refl _, by unfold maxLen; omega, .inl rfl⟩
theorem same_below {P : Program} {f : FuncId} {args : Array Value} {w : World} {v : Value} (h : Calls P f args w fun e w' => e = .returned v ∧ w = w') : Calls P f args w fun e w' => e = .returned v ∧ Below w.heap.size w w' :=
  h.mono fun _ _ ⟨he, hw⟩ => ⟨he, by rw [← hw]; exact Below.refl _ _⟩
set_option maxHeartbeats 8000000 in
set_option maxRecDepth 100000 in
theorem lawExact5Long (v1 : Value) (L : List Rg) (c : Int) (u1 u2 : Value) (ix bl : List Int) (w : World) (h1 : Sg w v1 L) (h2 : Sl .i64 w u1 ix) (h3 : Sl .i64 w u2 bl) (hlong : 60 < L.length ∨ 5000 < ix.length ∨ 5000 < bl.length) :
    Calls Try.prog 3 #[v1, .int .i64 c, .agg #[u1, u2]] w fun e w' => e = .returned (.bool true) ∧ Below w.heap.size w w' := by
  have ml1 := h1.len
  have ml2 := h2.len
  have ml3 := h3.len
  have HS1 := hid h1
  have HS2 := hid h2
  have HS3 := hid h3
  have HBA : Hid (Below w.heap.size w (w.alloc (.cells #[u1, u2] 25))) := hid (by (repeat (first | exact Below.refl _ _ | exact below_drewN _ | refine Below.drew ?_ | refine Below.alloc ?_ (by first | omega | (simp; done) | (simp; omega)) _ | refine Below.setCell ?_ (by first | (simp; done) | (simp; omega)) _ | refine below_drewN' ?_ _)))
  obtain ⟨a1, cap1, hv1⟩ := h1.form
  obtain ⟨a2, cap2, hv2⟩ := h2.form
  obtain ⟨a3, cap3, hv3⟩ := h3.form
  obtain ⟨n1, hn1⟩ : ∃ n, n = L.length := ⟨_, rfl⟩
  obtain ⟨n2, hn2⟩ : ∃ n, n = ix.length := ⟨_, rfl⟩
  obtain ⟨n3, hn3⟩ : ∃ n, n = bl.length := ⟨_, rfl⟩
  have HN := hid (show n1 = L.length ∧ n2 = ix.length ∧ n3 = bl.length from ⟨hn1, hn2, hn3⟩)
  rw [← hn1] at hv1 ml1
  rw [← hn2] at hv2 ml2
  rw [← hn3] at hv3 ml3
  subst hv1 hv2 hv3
  have HST0 := hid (Box.made w 25 [.slice a2 n2 cap2, .slice a3 n3 cap3])
  have x00 := HST0.out.cell 0
  have x01 := HST0.out.cell 1
  simp only [List.getElem?_cons_zero, List.getElem?_cons_succ] at x00 x01
  clear h1 h2 h3 hn1 hn2 hn3
  have hl : 60 < n1 ∨ 5000 < n2 ∨ 5000 < n3 := by have := HN.out; omega
  clear hlong
  by_cases hb1 : 60 < n1
  · go_enter Try.func3, Try.ntmps3
    clear hl
    go_wp2_with (fail)
    go_ret
    exact ⟨rfl, HBA.out⟩
  by_cases hb2 : 5000 < n2
  · go_enter Try.func3, Try.ntmps3
    clear hl
    go_wp2_with (fail)
    go_ret
    exact ⟨rfl, HBA.out⟩
  have hb3 : 5000 < n3 := by omega
  clear hl
  go_enter Try.func3, Try.ntmps3
  go_wp2_with (fail)
  go_ret
  exact ⟨rfl, HBA.out⟩
end Go.Proofs.Ytlngnmcflooccaa
