/- Plain facts of tables: how many blocks a packed table has and in which order; the fewest ranges that say the same. No conditions. -/
import Derived.Test.YtpdcmfnemfopjaaRngSpec
namespace Go.Proofs.Ytpdcmfnemfopjaa

theorem packN_at (g : Nat → Int) : ∀ {n k : Nat}, k < n → (packN g n).1.getD k 0 = (packN g k).2.idxOf (blk g k)
  | n + 1, k, h => by
    have hl := (packN_ok g n).len
    rw [packN]
    rcases Nat.lt_or_ge k n with h1 | h1
    · rw [List.getD_eq_getElem?_getD, List.getElem?_append_left (by omega), ← List.getD_eq_getElem?_getD]
      exact packN_at g h1
    · obtain rfl : k = n := by omega
      rw [List.getD_eq_getElem?_getD, List.getElem?_append_right (by omega), hl, Nat.sub_self]
      rfl
/-- the number of blocks met among the first k groups -/
def seenN (g : Nat → Int) (k : Nat) : Nat := (packN g k).2.length
theorem seenN_next (g : Nat → Int) {n k : Nat} (h : k < n) : (packN g n).1.getD k 0 ≤ seenN g k ∧ seenN g (k + 1) = if (packN g n).1.getD k 0 = seenN g k then seenN g k + 1 else seenN g k := by
  rw [packN_at g h]
  unfold seenN
  rw [packN]
  by_cases hm : blk g k ∈ (packN g k).2
  · have hlt := List.idxOf_lt_length_iff.2 hm
    simp only [if_pos hm]
    rw [if_neg (by omega)]
    exact ⟨by omega, rfl⟩
  · have he := List.idxOf_eq_length hm
    simp only [if_neg hm]
    rw [if_pos he]
    exact ⟨by omega, by simp⟩

/-! ### no more than three blocks a range, and one -/
theorem sub_len {α : Type} [DecidableEq α] : ∀ {a b : List α}, a.Nodup → (∀ x ∈ a, x ∈ b) → a.length ≤ b.length
  | [], _, _, _ => Nat.zero_le _
  | x :: a, b, hn, hs => by
    rw [List.nodup_cons] at hn
    have hx := hs x (List.mem_cons_self ..)
    have ih := sub_len (a := a) (b := b.erase x) hn.2 (fun y hy => (List.mem_erase_of_ne (by rintro rfl; exact hn.1 hy)).2 (hs y (List.mem_cons_of_mem _ hy)))
    rw [List.length_erase_of_mem hx] at ih
    have := List.length_pos_of_mem hx
    simp only [List.length_cons]
    omega
def con (v : Int) : List Int := List.replicate 256 v
theorem con_eq {b : List Int} {v : Int} (hl : b.length = 256) (h : ∀ i, i < 256 → b.getD i 0 = v) : b = con v := by
  apply List.ext_getElem
  · rw [hl]; exact List.length_replicate.symm
  · intro i h1 h2
    have := h i (by omega)
    rw [List.getD_eq_getElem?_getD, List.getElem?_eq_getElem h1] at this
    exact this.trans (List.getElem_replicate (h := by rw [List.length_replicate]; omega)).symm
def tabG (l : List Rg) : Nat → Int := fun c => lookS l (c : Int)
theorem blk_kind {l : List Rg} (h : okL (-1) l) (k : Nat) : blk (tabG l) k ∈ con 0 :: (l.map (fun r => con r.v) ++ (l.map (fun r => blk (tabG l) (r.f / 256).toNat) ++ l.map (fun r => blk (tabG l) (r.t / 256).toNat))) := by
  by_cases hz : ∀ i, i < 256 → tabG l (256 * k + i) = 0
  · refine List.mem_cons.2 (.inl ?_)
    exact con_eq (blk_len _ _) fun i hi => by rw [blk_at _ _ _ hi]; exact hz i hi
  · obtain ⟨i, hi⟩ := Classical.not_forall.1 hz
    obtain ⟨hi1, hi2⟩ := Classical.not_imp.1 hi
    obtain ⟨r, hr, h1, h2, h3⟩ := lookS_some hi2
    have hok := okL_mem h hr
    unfold maxS at hok
    refine List.mem_cons.2 (.inr ?_)
    by_cases hf : (256 * k : Int) ≤ r.f ∧ ¬ r.f = 256 * k
    · refine List.mem_append.2 (.inr (List.mem_append.2 (.inl (List.mem_map.2 ⟨r, hr, ?_⟩))))
      rw [show (r.f / 256).toNat = k by omega]
    · by_cases ht : r.t < (256 * k + 255 : Int)
      · refine List.mem_append.2 (.inr (List.mem_append.2 (.inr (List.mem_map.2 ⟨r, hr, ?_⟩))))
        rw [show (r.t / 256).toNat = k by omega]
      · refine List.mem_append.2 (.inl (List.mem_map.2 ⟨r, hr, ?_⟩))
        refine (con_eq (blk_len _ _) fun j hj => ?_).symm
        rw [blk_at _ _ _ hj]
        exact lookS_mem h hr (by omega) (by omega)
theorem pack_small {l : List Rg} (h : okL (-1) l) (n : Nat) : (packN (tabG l) n).2.length ≤ 3 * l.length + 1 := by
  have hk := packN_ok (tabG l) n
  have := sub_len hk.nodup (b := con 0 :: (l.map (fun r => con r.v) ++ (l.map (fun r => blk (tabG l) (r.f / 256).toNat) ++ l.map (fun r => blk (tabG l) (r.t / 256).toNat)))) (fun b hb => by
    obtain ⟨k, _, rfl⟩ := hk.from_ b hb
    exact blk_kind h k)
  rw [List.length_cons, List.length_append, List.length_append, List.length_map, List.length_map, List.length_map] at this
  omega

/-! ### the fewest ranges -/
/-- one number more -/
def rleStep (l : List Rg) (c : Nat) (v : Int) : List Rg :=
  if v = 0 then l else
    match l.getLast? with
    | some r => if r.t = (c : Int) - 1 ∧ r.v = v then l.dropLast ++ [⟨r.f, c, v⟩] else l ++ [⟨c, c, v⟩]
    | none => [⟨c, c, v⟩]
def rle (g : Nat → Int) : Nat → List Rg
  | 0 => []
  | n + 1 => rleStep (rle g n) n (g n)
/-- what is known of the ranges of the first n numbers -/
structure RleOk (g : Nat → Int) (n : Nat) (l : List Rg) : Prop where
  mem : ∀ r ∈ l, 0 ≤ r.f ∧ r.f ≤ r.t ∧ r.t < n ∧ r.v ≠ 0 ∧ (∀ c : Nat, r.f ≤ c → c ≤ r.t → g c = r.v) ∧ (r.f = 0 ∨ g (r.f - 1).toNat ≠ r.v)
  cov : ∀ c : Nat, c < n → g c ≠ 0 → ∃ r ∈ l, r.f ≤ (c : Int) ∧ (c : Int) ≤ r.t
  ord : l.Pairwise fun a b => a.t < b.f
  max : ∀ r ∈ l, r.t + 1 < n → g (r.t + 1).toNat ≠ r.v
theorem last_split {l : List Rg} {r : Rg} (h : l.getLast? = some r) : l = l.dropLast ++ [r] := by
  have hne : l ≠ [] := by rintro rfl; simp at h
  rw [List.getLast?_eq_some_getLast hne] at h
  injection h with h
  rw [← h, List.dropLast_concat_getLast]
theorem rle_ok (g : Nat → Int) : ∀ n, RleOk g n (rle g n)
  | 0 => ⟨fun _ h => (nomatch h), fun _ h => absurd h (by omega), List.Pairwise.nil, fun _ h => (nomatch h)⟩
  | n + 1 => by
    have ih := rle_ok g n
    rw [rle]
    generalize rle g n = l at ih
    unfold rleStep
    by_cases hv : g n = 0
    · rw [if_pos hv]
      refine ⟨fun r hr => ?_, fun c hc hg => ?_, ih.ord, fun r hr h1 => ?_⟩
      · obtain ⟨h1, h2, h3, h4, h5, h6⟩ := ih.mem r hr
        exact ⟨h1, h2, by omega, h4, h5, h6⟩
      · rcases Nat.lt_or_ge c n with h1 | h1
        · exact ih.cov c h1 hg
        · obtain rfl : c = n := by omega
          exact absurd hv hg
      · obtain ⟨k1, k2, k3, k4, k5, k6⟩ := ih.mem r hr
        by_cases h2 : r.t + 1 < n
        · exact ih.max r hr h2
        · have : (r.t + 1).toNat = n := by omega
          rw [this, hv]
          exact fun e => k4 e.symm
    · rw [if_neg hv]
      cases hlast : l.getLast? with
      | none =>
        have hl : l = [] := List.getLast?_eq_none_iff.1 hlast
        subst hl
        refine ⟨fun r hr => ?_, fun c hc hg => ?_, List.pairwise_singleton _ _, fun r hr h1 => ?_⟩
        · simp only [List.mem_singleton] at hr
          subst hr
          refine ⟨by simp, by simp, by simp; omega, hv, fun c h1 h2 => ?_, ?_⟩
          · simp only at h1 h2
            rw [show c = n by omega]
          · rcases Nat.eq_zero_or_pos n with h0 | h0
            · left; simp [h0]
            · right
              simp only
              intro he
              have h1 : g (n - 1) ≠ 0 := by rw [show ((n : Int) - 1).toNat = n - 1 by omega] at he; rw [he]; exact hv
              obtain ⟨r, hr, _⟩ := ih.cov (n - 1) (by omega) h1
              cases hr
        · rcases Nat.lt_or_ge c n with h1 | h1
          · obtain ⟨r, hr, _⟩ := ih.cov c h1 hg
            cases hr
          · exact ⟨_, List.mem_singleton.2 rfl, by simp; omega, by simp; omega⟩
        · simp only [List.mem_singleton] at hr
          subst hr
          simp at h1
      | some r =>
        have hsplit := last_split hlast
        generalize l.dropLast = d at hsplit
        subst hsplit
        clear hlast
        obtain ⟨k1, k2, k3, k4, k5, k6⟩ := ih.mem r (by simp)
        have hord := ih.ord
        rw [List.pairwise_append] at hord
        obtain ⟨o1, _, o3⟩ := hord
        simp only
        by_cases hx : r.t = (n : Int) - 1 ∧ r.v = g n
        · rw [if_pos hx]
          obtain ⟨x1, x2⟩ := hx
          refine ⟨fun s hs => ?_, fun c hc hg => ?_, ?_, fun s hs h1 => ?_⟩
          · rcases List.mem_append.1 hs with hs | hs
            · obtain ⟨h1, h2, h3, h4, h5, h6⟩ := ih.mem s (List.mem_append_left _ hs)
              exact ⟨h1, h2, by omega, h4, h5, h6⟩
            · simp only [List.mem_singleton] at hs
              subst hs
              refine ⟨k1, by simp only; omega, by simp only; omega, hv, fun c h1 h2 => ?_, ?_⟩
              · simp only at h1 h2 ⊢
                rcases Nat.lt_or_ge c n with h3 | h3
                · rw [k5 c h1 (by omega), x2]
                · rw [show c = n by omega]
              · simp only; rw [← x2]; exact k6
          · rcases Nat.lt_or_ge c n with h1 | h1
            · obtain ⟨s, hs, h2, h3⟩ := ih.cov c h1 hg
              rcases List.mem_append.1 hs with hs | hs
              · exact ⟨s, List.mem_append_left _ hs, h2, h3⟩
              · simp only [List.mem_singleton] at hs
                subst hs
                exact ⟨_, List.mem_append_right _ (List.mem_singleton.2 rfl), h2, by simp only; omega⟩
            · exact ⟨_, List.mem_append_right _ (List.mem_singleton.2 rfl), by simp only; omega, by simp only; omega⟩
          · rw [List.pairwise_append]
            exact ⟨o1, List.pairwise_singleton _ _, fun a ha b hb => by
              simp only [List.mem_singleton] at hb
              subst hb
              exact o3 a ha r (by simp)⟩
          · rcases List.mem_append.1 hs with hs | hs
            · have := o3 s hs r (by simp)
              exact ih.max s (List.mem_append_left _ hs) (by omega)
            · simp only [List.mem_singleton] at hs
              subst hs
              simp only at h1
              omega
        · rw [if_neg hx]
          refine ⟨fun s hs => ?_, fun c hc hg => ?_, ?_, fun s hs h1 => ?_⟩
          · rcases List.mem_append.1 hs with hs | hs
            · obtain ⟨h1, h2, h3, h4, h5, h6⟩ := ih.mem s hs
              exact ⟨h1, h2, by omega, h4, h5, h6⟩
            · simp only [List.mem_singleton] at hs
              subst hs
              refine ⟨by simp, by simp, by simp; omega, hv, fun c h1 h2 => ?_, ?_⟩
              · simp only at h1 h2
                rw [show c = n by omega]
              · rcases Nat.eq_zero_or_pos n with h0 | h0
                · left; simp [h0]
                · right
                  simp only
                  rw [show ((n : Int) - 1).toNat = n - 1 by omega]
                  intro he
                  obtain ⟨s, hs, h1, h2⟩ := ih.cov (n - 1) (by omega) (by rw [he]; exact hv)
                  rcases List.mem_append.1 hs with hs | hs
                  · have := o3 s hs r (by simp)
                    omega
                  · simp only [List.mem_singleton] at hs
                    subst hs
                    have := k5 (n - 1) h1 h2
                    exact hx ⟨by omega, by rw [← this, he]⟩
          · rcases Nat.lt_or_ge c n with h1 | h1
            · obtain ⟨s, hs, h2, h3⟩ := ih.cov c h1 hg
              exact ⟨s, List.mem_append_left _ hs, h2, h3⟩
            · exact ⟨_, List.mem_append_right _ (List.mem_singleton.2 rfl), by simp only; omega, by simp only; omega⟩
          · rw [List.pairwise_append]
            exact ⟨ih.ord, List.pairwise_singleton _ _, fun a ha b hb => by
              simp only [List.mem_singleton] at hb
              subst hb
              have := (ih.mem a ha).2.2.1
              simp only
              omega⟩
          · rcases List.mem_append.1 hs with hs | hs
            · by_cases h2 : s.t + 1 < n
              · exact ih.max s hs h2
              · have hst : s.t = (n : Int) - 1 := by have := (ih.mem s hs).2.2.1; omega
                rw [show (s.t + 1).toNat = n by omega]
                rcases List.mem_append.1 hs with hs | hs
                · have := o3 s hs r (by simp)
                  omega
                · simp only [List.mem_singleton] at hs
                  subst hs
                  exact fun e => hx ⟨hst, e.symm⟩
            · simp only [List.mem_singleton] at hs
              subst hs
              simp at h1
/-- it is a right table, where it is not too long -/
theorem rle_flat {g : Nat → Int} {n : Nat} {l : List Rg} (h : RleOk g n l) (hn : (n : Int) ≤ maxS + 1) (hv : ∀ c, c < n → 0 ≤ g c ∧ g c ≤ 65535) : okL (-1) l := by
  have key : ∀ (l : List Rg) (p : Int), (∀ r ∈ l, 0 ≤ r.f ∧ r.f ≤ r.t ∧ r.t < n ∧ 1 ≤ r.v ∧ r.v ≤ 65535 ∧ p < r.f) → l.Pairwise (fun a b => a.t < b.f) → okL p l := by
    intro l
    induction l with
    | nil => intro _ _ _; trivial
    | cons r l ih =>
      intro p h1 h2
      rw [List.pairwise_cons] at h2
      have hr := h1 r (List.mem_cons_self ..)
      refine ⟨?_, ih r.t (fun s hs => ?_) h2.2⟩
      · unfold okR; omega
      · have := h1 s (List.mem_cons_of_mem _ hs)
        have := h2.1 s hs
        omega
  refine key l (-1) (fun r hr => ?_) h.ord
  obtain ⟨h1, h2, h3, h4, h5, _⟩ := h.mem r hr
  have e := h5 r.f.toNat (by omega) (by omega)
  have := hv r.f.toNat (by omega)
  omega
/-- it says the same -/
theorem rle_look {g : Nat → Int} {n : Nat} {l : List Rg} (h : RleOk g n l) (hf : okL (-1) l) {c : Nat} (hc : c < n) : lookS l c = g c := by
  by_cases hz : g c = 0
  · rw [hz]
    by_cases hl : lookS l c = 0
    · exact hl
    · obtain ⟨r, hr, h1, h2, h3⟩ := lookS_some hl
      obtain ⟨_, _, _, h4, h5, _⟩ := h.mem r hr
      exact absurd ((h5 c h1 h2).symm.trans hz) h4
  · obtain ⟨r, hr, h1, h2⟩ := h.cov c hc hz
    obtain ⟨_, _, _, _, h5, _⟩ := h.mem r hr
    rw [lookS_mem hf hr h1 h2, h5 c h1 h2]
/-- no table that says the same has fewer -/
theorem rle_few {g : Nat → Int} {n : Nat} {l m : List Rg} (h : RleOk g n l) (hm : ∀ c : Nat, c < n → lookS m c = g c) (hk : okL (-1) m) : l.length ≤ m.length := by
  have hn : (l.map Rg.f).Nodup := by
    unfold List.Nodup
    rw [List.pairwise_map]
    refine h.ord.imp_of_mem fun {a b} ha hb hab => ?_
    have := (h.mem a ha).2.1
    have := (h.mem b hb).2.1
    omega
  have := sub_len hn (b := m.map Rg.f) (fun x hx => by
    obtain ⟨r, hr, rfl⟩ := List.mem_map.1 hx
    obtain ⟨h1, h2, h3, h4, h5, h6⟩ := h.mem r hr
    have e := h5 r.f.toNat (by omega) (by omega)
    have e2 := hm r.f.toNat (by omega)
    rw [e] at e2
    obtain ⟨s, hs, k1, k2, k3⟩ := lookS_some (l := m) (c := (r.f.toNat : Int)) (by rw [e2]; exact h4)
    have hsv : s.v = r.v := by rw [← k3, e2]
    refine List.mem_map.2 ⟨s, hs, ?_⟩
    rcases h6 with h6 | h6
    · have := (okL_mem hk hs).1
      omega
    · by_cases hlt : s.f < r.f
      · have e3 := hm (r.f - 1).toNat (by omega)
        rw [lookS_mem hk hs (by omega) (by omega), hsv] at e3
        exact absurd e3.symm h6
      · omega)
  simpa using this
end Go.Proofs.Ytpdcmfnemfopjaa
