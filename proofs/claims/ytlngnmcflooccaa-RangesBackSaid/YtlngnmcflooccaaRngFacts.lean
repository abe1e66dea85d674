/- Plain facts of packed tables: what they say, what they are unpacked to, what a right table's wake says. No conditions. -/
import Derived.Test.YtlngnmcflooccaaRngUnp
namespace Go.Proofs.Ytlngnmcflooccaa

theorem look_bound' {L : List Rg} (h : okL (-1) L) (c : Int) : 0 ≤ lookS L c ∧ lookS L c ≤ 65535 := by
  by_cases hz : lookS L c = 0
  · rw [hz]; omega
  · obtain ⟨r, hr, _, _, he⟩ := lookS_some hz
    have := okL_mem h hr
    rw [he]
    omega
theorem flat_mem {bs : List (List Int)} {x : Int} (h : x ∈ bs.flatten) : ∃ b ∈ bs, x ∈ b := List.mem_flatten.1 h
/-- what is packed is whole, and says what was packed -/
theorem unp_packed {L : List Rg} (h : okL (-1) L) {p : List Nat × List (List Int)} (hp : PackOk (tabG L) 4352 p) : unpOk (nats p.1) p.2.flatten ∧ ∀ c, c < 1114112 → getN (nats p.1) p.2.flatten c = tabG L c := by
  have hfl := flat_len hp.each
  refine ⟨⟨by rw [nats_len, hp.len], by rw [hfl]; omega, fun i hi => ?_, fun k hk => ?_⟩, fun c hc => ?_⟩
  · have hm : p.2.flatten.getD i 0 ∈ p.2.flatten := by
      rw [List.getD_eq_getElem?_getD, List.getElem?_eq_getElem hi]
      exact List.getElem_mem hi
    obtain ⟨b, hb, hx⟩ := flat_mem hm
    obtain ⟨k, _, rfl⟩ := hp.from_ b hb
    unfold blk at hx
    obtain ⟨j, _, he⟩ := List.mem_map.1 hx
    rw [← he]
    exact look_bound' h _
  · rw [nats_len, hp.len] at hk
    have ha := (hp.at_ k hk).1
    rw [nats_at, hfl]
    omega
  · have ha := hp.at_ (c / 256) (by omega)
    unfold getN
    rw [nats_at, Int.toNat_natCast, flat_at hp.each ha.1 (by omega), ha.2, blk_at _ _ _ (by omega)]
    congr 1
    omega
theorem unp_pack {L : List Rg} (h : okL (-1) L) : unpOk (nats (packN (tabG L) 4352).1) (packN (tabG L) 4352).2.flatten ∧ ∀ c, c < 1114112 → getN (nats (packN (tabG L) 4352).1) (packN (tabG L) 4352).2.flatten c = tabG L c := unp_packed h (packN_ok _ _)
theorem rle_congr {g h : Nat → Int} : ∀ {n : Nat}, (∀ c, c < n → g c = h c) → rle g n = rle h n
  | 0, _ => rfl
  | n + 1, e => by rw [rle, rle, rle_congr (n := n) (fun c hc => e c (by omega)), e n (by omega)]
/-- the fewest ranges of a right table -/
def few (L : List Rg) : List Rg := rle (tabG L) 1114112
theorem few_ok {L : List Rg} (h : okL (-1) L) : okL (-1) (few L) := rle_flat (rle_ok _ _) (by unfold maxS; omega) (fun c _ => look_bound' h c)
theorem few_look {L : List Rg} (h : okL (-1) L) {c : Nat} (hc : c < 1114112) : lookS (few L) c = tabG L c := rle_look (rle_ok _ _) (few_ok h) hc
theorem few_len {L : List Rg} (h : okL (-1) L) : (few L).length ≤ L.length := rle_few (rle_ok _ _) (fun _ _ => rfl) h
theorem unp_few {L : List Rg} (h : okL (-1) L) (hl : L.length ≤ 2000) : unpackS (nats (packN (tabG L) 4352).1) (packN (tabG L) 4352).2.flatten = some (few L) := by
  obtain ⟨h1, h2⟩ := unp_pack h
  have e := rle_congr (n := 1114112) h2
  have hle := few_len h
  unfold few at hle ⊢
  rw [unpackS_some h1 (by rw [e]; omega), e]
theorem few_pack {L : List Rg} (h : okL (-1) L) : packN (tabG (few L)) 4352 = packN (tabG L) 4352 := packN_ext fun c hc => few_look h (by omega)
theorem few_flat {L : List Rg} (h : okL (-1) L) (hl : L.length ≤ 2000) : flatS (few L) = true := by
  unfold flatS
  exact decide_eq_true ⟨Nat.le_trans (few_len h) hl, few_ok h⟩
theorem few_at {L : List Rg} {i : Nat} (hi : i < (few L).length) : lookS L ((few L).getD i noRg).f = ((few L).getD i noRg).v ∧ lookS L ((few L).getD i noRg).t = ((few L).getD i noRg).v ∧ 0 ≤ ((few L).getD i noRg).f := by
  have hk := rle_ok (tabG L) 1114112
  have hm : (few L).getD i noRg ∈ rle (tabG L) 1114112 := by
    unfold few at hi ⊢
    rw [List.getD_eq_getElem?_getD, List.getElem?_eq_getElem hi]
    exact List.getElem_mem hi
  generalize (few L).getD i noRg = r at hm
  obtain ⟨h1, h2, h3, h4, h5, h6⟩ := hk.mem r hm
  have a := h5 r.f.toNat (by omega) (by omega)
  have b := h5 r.t.toNat (by omega) (by omega)
  unfold tabG at a b
  rw [show ((r.f.toNat : Nat) : Int) = r.f by omega] at a
  rw [show ((r.t.toNat : Nat) : Int) = r.t by omega] at b
  exact ⟨a, b, h1⟩
/-- no two of them could be one -/
theorem few_apart {L : List Rg} {i : Nat} (hi : i + 1 < (few L).length) : ¬ (((few L).getD i noRg).t = ((few L).getD (i + 1) noRg).f - 1 ∧ ((few L).getD i noRg).v = ((few L).getD (i + 1) noRg).v) := by
  have hk := rle_ok (tabG L) 1114112
  have hmem : ∀ j, j < (few L).length → (few L).getD j noRg ∈ rle (tabG L) 1114112 := fun j hj => by
    unfold few at hj ⊢
    rw [List.getD_eq_getElem?_getD, List.getElem?_eq_getElem hj]
    exact List.getElem_mem hj
  have m1 := hmem i (by omega)
  have m2 := hmem (i + 1) hi
  generalize (few L).getD i noRg = r at m1
  generalize (few L).getD (i + 1) noRg = s at m2
  rintro ⟨e1, e2⟩
  obtain ⟨h1, h2, h3, h4, h5, h6⟩ := hk.mem s m2
  have hx := hk.max r m1 (by omega)
  have hy := h5 s.f.toNat (by omega) (by omega)
  rw [show (r.t + 1).toNat = s.f.toNat by omega, hy] at hx
  exact hx e2.symm
/-- a packed table says of every number what the flat one says -/
theorem getS_all {L : List Rg} (h : okL (-1) L) (c : Int) : getS (nats (packN (tabG L) 4352).1) (packN (tabG L) 4352).2.flatten c = lookS L c := by
  by_cases h0 : 0 ≤ c ∧ c ≤ maxS
  · obtain ⟨n, rfl⟩ := Int.eq_ofNat_of_zero_le h0.1
    exact getS_pack (tabG L) (packN_ok (tabG L) 4352) h0.2
  · have e1 : getS (nats (packN (tabG L) 4352).1) (packN (tabG L) 4352).2.flatten c = 0 := by
      unfold getS
      rw [if_neg (fun hh => h0 ⟨hh.1, hh.2.1⟩)]
    rw [e1]
    by_cases hz : lookS L c = 0
    · exact hz.symm
    · obtain ⟨r, hr, h1, h2, _⟩ := lookS_some hz
      have := okL_mem h hr
      exact absurd ⟨by omega, by omega⟩ h0
theorem getS_out (ix bl : List Int) {c : Int} (h : c < 0 ∨ maxS < c) : getS ix bl c = 0 := by
  unfold getS
  rw [if_neg (by omega)]

/-! ### the waking table -/
def wk5 : List Rg := [⟨300, 301, 7⟩]
theorem wk5_ok : okL (-1) wk5 := by decide
theorem wk5_flat : flatS wk5 = true := by decide
theorem wk5_look {c : Int} (h : c < 300 ∨ 301 < c) : lookS wk5 c = 0 := by
  unfold wk5
  rw [lookS, if_neg (by dsimp only; omega)]
  rfl
theorem wk5_blk {k : Nat} (h : k ≠ 1) : blk (tabG wk5) k = con 0 := by
  refine con_eq (blk_len _ _) fun i hi => ?_
  rw [blk_at _ _ _ hi]
  exact wk5_look (by omega)
theorem wk5_counted {p : List Nat × List (List Int)} (hp : PackOk (tabG wk5) 4352 p) : p.2.length = 2 := by
  have h1 := sub_len hp.nodup (b := [con 0, blk (tabG wk5) 1]) (fun b hb => by
    obtain ⟨k, _, rfl⟩ := hp.from_ b hb
    by_cases hk : k = 1
    · subst hk; simp
    · rw [wk5_blk hk]; simp)
  have hne : con 0 ≠ blk (tabG wk5) 1 := fun e => by
    have this : (con 0).getD 44 0 = (blk (tabG wk5) 1).getD 44 0 := congrArg (fun l : List Int => l.getD 44 0) e
    rw [con_at (by omega), blk_at _ _ _ (by omega)] at this
    exact absurd this (by decide)
  have hmem : ∀ k, k < 4352 → blk (tabG wk5) k ∈ p.2 := fun k hk => by
    have ha := hp.at_ k hk
    rw [← ha.2, List.getD_eq_getElem?_getD, List.getElem?_eq_getElem ha.1]
    exact List.getElem_mem ha.1
  have h2 := sub_len (a := [con 0, blk (tabG wk5) 1]) (b := p.2) (by simp [hne]) (fun b hb => by
    simp only [List.mem_cons, List.not_mem_nil, or_false] at hb
    rcases hb with rfl | rfl
    · rw [← wk5_blk (k := 0) (by omega)]; exact hmem 0 (by omega)
    · exact hmem 1 (by omega))
  simp only [List.length_cons, List.length_nil] at h1 h2
  omega
theorem wk5_count : (packN (tabG wk5) 4352).2.length = 2 := wk5_counted (packN_ok _ _)
theorem wk5_flen : (packN (tabG wk5) 4352).2.flatten.length = 512 := by rw [flat_len (packN_ok _ _).each, wk5_count]
theorem wk5_few : (few wk5).length = 1 ∧ ((few wk5).getD 0 noRg).t = 301 := by
  have hk := rle_ok (tabG wk5) 1114112
  have h1 := few_len wk5_ok
  obtain ⟨r, hr, r1, r2⟩ := hk.cov 300 (by omega) (by decide)
  obtain ⟨s, hs, s1, s2⟩ := hk.cov 301 (by omega) (by decide)
  obtain ⟨_, _, _, h4, h5, _⟩ := hk.mem r hr
  change (few wk5).length ≤ 1 at h1
  have hf : rle (tabG wk5) 1114112 = few wk5 := rfl
  rw [hf] at hr hs
  match he : few wk5, h1, hr, hs with
  | [], _, hr, _ => cases hr
  | [x], _, hr, hs =>
    simp only [List.mem_singleton] at hr hs
    refine ⟨rfl, ?_⟩
    show x.t = 301
    rw [← hr]
    rw [hs, ← hr] at s2
    by_cases ht : r.t ≤ 301
    · omega
    · have a := h5 302 (by omega) (by omega)
      have b := h5 300 (by omega) (by omega)
      rw [← a] at b
      exact absurd b (by decide)
  | _ :: _ :: _, h1, _, _ => simp at h1
end Go.Proofs.Ytlngnmcflooccaa
