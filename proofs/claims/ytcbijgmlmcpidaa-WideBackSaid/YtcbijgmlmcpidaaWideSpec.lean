/- Characters of two bytes and of four, plainly. No conditions. -/
import Derived.Test.YtcbijgmlmcpidaaFix
namespace Go.Proofs.Ytcbijgmlmcpidaa

def wok (f : Bool) (c : Int) : Bool := scalarB c && (f || decide (c ≤ 65535))
def wenc (f : Bool) (c : Int) : List Int := if f then [0, c / 65536, c / 256 % 256, c % 256] else [c / 256, c % 256]
def wval (ch : List Int) : Int := ch.foldl (fun c x => 256 * c + x) 0
def wdec (ch : List Int) : Option Int := if scalarB (wval ch) then some (wval ch) else none
def wk (f : Bool) : Nat := if f then 4 else 2
theorem scalar_parts {c : Int} (h : scalarB c = true) : 0 ≤ c ∧ c ≤ 1114111 := by
  unfold scalarB at h
  have h := of_decide_eq_true h
  exact ⟨h.1, h.2.1⟩
theorem wok_parts {f : Bool} {c : Int} (h : wok f c = true) : scalarB c = true ∧ 0 ≤ c ∧ c ≤ 1114111 ∧ (f = false → c ≤ 65535) := by
  unfold wok at h
  rw [Bool.and_eq_true] at h
  obtain ⟨h1, h2⟩ := scalar_parts h.1
  refine ⟨h.1, h1, h2, fun hf => ?_⟩
  rw [hf] at h
  simpa using h.2
theorem wenc_get {f : Bool} {c : Int} (h : wok f c = true) : (wenc f c).length = wk f ∧ wdec (wenc f c) = some c := by
  obtain ⟨hs, h0, h1, h2⟩ := wok_parts h
  cases f with
  | true =>
    have e : wval [0, c / 65536, c / 256 % 256, c % 256] = c := by simp only [wval, List.foldl_cons, List.foldl_nil]; omega
    simp [wenc, wk, wdec, e, hs]
  | false =>
    have h2 := h2 rfl
    have e : wval [c / 256, c % 256] = c := by simp only [wval, List.foldl_cons, List.foldl_nil]; omega
    simp [wenc, wk, wdec, e, hs]
theorem wenc_u8 {f : Bool} {c : Int} (h : wok f c = true) : U8 (wenc f c) := by
  obtain ⟨hs, h0, h1, h2⟩ := wok_parts h
  cases f with
  | true => intro x hx; simp [wenc] at hx; omega
  | false =>
    have h2 := h2 rfl
    intro x hx; simp [wenc] at hx; omega
theorem wdec_put {f : Bool} {ch : List Int} {c : Int} (hu : U8 ch) (hl : ch.length = wk f) (h : wdec ch = some c) : wok f c = true ∧ wenc f c = ch := by
  unfold wdec at h
  by_cases hs : scalarB (wval ch) = true
  · rw [if_pos hs] at h
    simp only [Option.some.injEq] at h
    subst h
    obtain ⟨h0, h1⟩ := scalar_parts hs
    cases f with
    | true =>
      match ch, hl with
      | [a, b, d, e], _ =>
        have ua := hu a (by simp)
        have ub := hu b (by simp)
        have ud := hu d (by simp)
        have ue := hu e (by simp)
        have hv : wval [a, b, d, e] = 256 * (256 * (256 * (256 * 0 + a) + b) + d) + e := rfl
        generalize wval [a, b, d, e] = x at hs h0 h1 hv
        refine ⟨by simp [wok, hs], ?_⟩
        simp only [wenc, if_true]
        congr 1
        · omega
        · congr 1
          · omega
          · congr 1
            · omega
            · congr 1; omega
    | false =>
      match ch, hl with
      | [a, b], _ =>
        have ua := hu a (by simp)
        have ub := hu b (by simp)
        have hv : wval [a, b] = 256 * (256 * 0 + a) + b := rfl
        generalize wval [a, b] = x at hs h0 h1 hv
        refine ⟨?_, ?_⟩
        · unfold wok
          rw [hs, Bool.true_and, Bool.false_or]
          exact decide_eq_true (by omega)
        · simp only [wenc, Bool.false_eq_true, if_false]
          congr 1
          · omega
          · congr 1; omega
  · rw [if_neg hs] at h
    cases h
def wputB (f : Bool) (s : List Int) : List Int ⊕ Nat := putG (wok f) (wenc f) s
def wgetB (f : Bool) (b : List Int) : List Int × Int × Int := if b.length % wk f = 0 then res3 13 (getN (wk f) wdec (b.length / wk f) b) else ([], ((b.length / wk f * wk f : Nat) : Int), 11)
def wput (size : Int) (s : List Int) : List Int × Int × Int := if size = 2 then res3 14 (wputB false s) else if size = 4 then res3 14 (wputB true s) else ([], 0, 1)
def wget (size : Int) (b : List Int) : List Int × Int × Int := if size = 2 then wgetB false b else if size = 4 then wgetB true b else ([], 0, 1)
theorem wput_get {f : Bool} {a x : List Int} (h : wputB f a = .inl x) : wgetB f x = (a, 0, 0) ∧ x.length = wk f * a.length ∧ U8 x ∧ ∀ c ∈ a, wok f c = true := by
  obtain ⟨h1, h2, h3⟩ := putG_all (k := wk f) h
  have hl := h2 (fun c hc => (wenc_get hc).1)
  have hk : 0 < wk f := by cases f <;> simp [wk]
  refine ⟨?_, hl, h3 (fun c hc => wenc_u8 hc), h1⟩
  unfold wgetB
  rw [hl, Nat.mul_mod_right, if_pos rfl, Nat.mul_div_cancel_left _ hk, putG_get (fun c hc => wenc_get hc) h]
  rfl
theorem wget_put {f : Bool} {b s : List Int} {at_ : Int} (hu : U8 b) (h : wgetB f b = (s, at_, 0)) : wputB f s = .inl b ∧ s.length * wk f = b.length := by
  unfold wgetB at h
  have hk : 0 < wk f := by cases f <;> simp [wk]
  by_cases hm : b.length % wk f = 0
  · rw [if_pos hm] at h
    have hb : b.length = wk f * (b.length / wk f) := by have := Nat.mod_add_div b.length (wk f); omega
    cases hg : getN (wk f) wdec (b.length / wk f) b with
    | inr k => rw [hg] at h; simp [res3, outE] at h
    | inl t =>
      rw [hg] at h
      simp only [res3, outL, outE, Prod.mk.injEq] at h
      obtain ⟨rfl, -, -⟩ := h
      obtain ⟨h1, h2⟩ := getN_put (fun ch c h1 h2 h3 => wdec_put h1 h2 h3) hu hb hg
      exact ⟨h1, by rw [h2, Nat.mul_comm]; exact hb.symm⟩
  · rw [if_neg hm] at h
    simp at h
end Go.Proofs.Ytcbijgmlmcpidaa
