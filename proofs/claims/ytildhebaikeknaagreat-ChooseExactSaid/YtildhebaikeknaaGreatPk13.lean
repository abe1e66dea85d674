/- Several texts in one: RngMath, RngPack, OwnG. -/
import Derived.Test.YtildhebaikeknaaGreatPk1
import Derived.Deep.AppendLies
/-! RngMath -/
namespace Go.Proofs.YtildhebaikeknaaGreat

theorem packN_at (g : Nat → Int) : ∀ {n k : Nat}, k < n → (packN g n).1.getD k 0 = (packN g k).2.idxOf (blk g k)
  | n + 1, k, h => by
    have hl := (packN_ok g n).len
    rw [packN]
    rcases Nat.lt_or_ge k n with h1 | h1
    · rw [List.getD_eq_getElem?_getD, List.getElem?_append_left (by omega), ← List.getD_eq_getElem?_getD]
      exact packN_at g h1
    · obtain rfl : k = n := by omega
      rw [List.getD_eq_getElem?_getD, List.getElem?_append_right (by omega), hl, Nat.sub_self]
      rfl
/-- the number of blocks met among the first k groups -/
def seenN (g : Nat → Int) (k : Nat) : Nat := (packN g k).2.length
theorem seenN_next (g : Nat → Int) {n k : Nat} (h : k < n) : (packN g n).1.getD k 0 ≤ seenN g k ∧ seenN g (k + 1) = if (packN g n).1.getD k 0 = seenN g k then seenN g k + 1 else seenN g k := by
  rw [packN_at g h]
  unfold seenN
  rw [packN]
  by_cases hm : blk g k ∈ (packN g k).2
  · have hlt := List.idxOf_lt_length_iff.2 hm
    simp only [if_pos hm]
    rw [if_neg (by omega)]
    exact ⟨by omega, rfl⟩
  · have he := List.idxOf_eq_length hm
    simp only [if_neg hm]
    rw [if_pos he]
    exact ⟨by omega, by simp⟩

/-! ### no more than three blocks a range, and one -/
theorem sub_len {α : Type} [DecidableEq α] : ∀ {a b : List α}, a.Nodup → (∀ x ∈ a, x ∈ b) → a.length ≤ b.length
  | [], _, _, _ => Nat.zero_le _
  | x :: a, b, hn, hs => by
    rw [List.nodup_cons] at hn
    have hx := hs x (List.mem_cons_self ..)
    have ih := sub_len (a := a) (b := b.erase x) hn.2 (fun y hy => (List.mem_erase_of_ne (by rintro rfl; exact hn.1 hy)).2 (hs y (List.mem_cons_of_mem _ hy)))
    rw [List.length_erase_of_mem hx] at ih
    have := List.length_pos_of_mem hx
    simp only [List.length_cons]
    omega
def con (v : Int) : List Int := List.replicate 256 v
theorem con_eq {b : List Int} {v : Int} (hl : b.length = 256) (h : ∀ i, i < 256 → b.getD i 0 = v) : b = con v := by
  apply List.ext_getElem
  · rw [hl]; exact List.length_replicate.symm
  · intro i h1 h2
    have := h i (by omega)
    rw [List.getD_eq_getElem?_getD, List.getElem?_eq_getElem h1] at this
    exact this.trans (List.getElem_replicate (h := by rw [List.length_replicate]; omega)).symm
def tabG (l : List Rg) : Nat → Int := fun c => lookS l (c : Int)
theorem blk_kind {l : List Rg} (h : okL (-1) l) (k : Nat) : blk (tabG l) k ∈ con 0 :: (l.map (fun r => con r.v) ++ (l.map (fun r => blk (tabG l) (r.f / 256).toNat) ++ l.map (fun r => blk (tabG l) (r.t / 256).toNat))) := by
  by_cases hz : ∀ i, i < 256 → tabG l (256 * k + i) = 0
  · refine List.mem_cons.2 (.inl ?_)
    exact con_eq (blk_len _ _) fun i hi => by rw [blk_at _ _ _ hi]; exact hz i hi
  · obtain ⟨i, hi⟩ := Classical.not_forall.1 hz
    obtain ⟨hi1, hi2⟩ := Classical.not_imp.1 hi
    obtain ⟨r, hr, h1, h2, h3⟩ := lookS_some hi2
    have hok := okL_mem h hr
    unfold maxS at hok
    refine List.mem_cons.2 (.inr ?_)
    by_cases hf : (256 * k : Int) ≤ r.f ∧ ¬ r.f = 256 * k
    · refine List.mem_append.2 (.inr (List.mem_append.2 (.inl (List.mem_map.2 ⟨r, hr, ?_⟩))))
      rw [show (r.f / 256).toNat = k by omega]
    · by_cases ht : r.t < (256 * k + 255 : Int)
      · refine List.mem_append.2 (.inr (List.mem_append.2 (.inr (List.mem_map.2 ⟨r, hr, ?_⟩))))
        rw [show (r.t / 256).toNat = k by omega]
      · refine List.mem_append.2 (.inl (List.mem_map.2 ⟨r, hr, ?_⟩))
        refine (con_eq (blk_len _ _) fun j hj => ?_).symm
        rw [blk_at _ _ _ hj]
        exact lookS_mem h hr (by omega) (by omega)
theorem pack_small {l : List Rg} (h : okL (-1) l) (n : Nat) : (packN (tabG l) n).2.length ≤ 3 * l.length + 1 := by
  have hk := packN_ok (tabG l) n
  have := sub_len hk.nodup (b := con 0 :: (l.map (fun r => con r.v) ++ (l.map (fun r => blk (tabG l) (r.f / 256).toNat) ++ l.map (fun r => blk (tabG l) (r.t / 256).toNat)))) (fun b hb => by
    obtain ⟨k, _, rfl⟩ := hk.from_ b hb
    exact blk_kind h k)
  rw [List.length_cons, List.length_append, List.length_append, List.length_map, List.length_map, List.length_map] at this
  omega

/-! ### the fewest ranges -/
/-- one number more -/
def rleStep (l : List Rg) (c : Nat) (v : Int) : List Rg :=
  if v = 0 then l else
    match l.getLast? with
    | some r => if r.t = (c : Int) - 1 ∧ r.v = v then l.dropLast ++ [⟨r.f, c, v⟩] else l ++ [⟨c, c, v⟩]
    | none => [⟨c, c, v⟩]
def rle (g : Nat → Int) : Nat → List Rg
  | 0 => []
  | n + 1 => rleStep (rle g n) n (g n)
/-- what is known of the ranges of the first n numbers -/
structure RleOk (g : Nat → Int) (n : Nat) (l : List Rg) : Prop where
  mem : ∀ r ∈ l, 0 ≤ r.f ∧ r.f ≤ r.t ∧ r.t < n ∧ r.v ≠ 0 ∧ (∀ c : Nat, r.f ≤ c → c ≤ r.t → g c = r.v) ∧ (r.f = 0 ∨ g (r.f - 1).toNat ≠ r.v)
  cov : ∀ c : Nat, c < n → g c ≠ 0 → ∃ r ∈ l, r.f ≤ (c : Int) ∧ (c : Int) ≤ r.t
  ord : l.Pairwise fun a b => a.t < b.f
  max : ∀ r ∈ l, r.t + 1 < n → g (r.t + 1).toNat ≠ r.v
theorem last_split {l : List Rg} {r : Rg} (h : l.getLast? = some r) : l = l.dropLast ++ [r] := by
  have hne : l ≠ [] := by rintro rfl; simp at h
  rw [List.getLast?_eq_some_getLast hne] at h
  injection h with h
  rw [← h, List.dropLast_concat_getLast]
theorem rle_ok (g : Nat → Int) : ∀ n, RleOk g n (rle g n)
  | 0 => ⟨fun _ h => (nomatch h), fun _ h => absurd h (by omega), List.Pairwise.nil, fun _ h => (nomatch h)⟩
  | n + 1 => by
    have ih := rle_ok g n
    rw [rle]
    generalize rle g n = l at ih
    unfold rleStep
    by_cases hv : g n = 0
    · rw [if_pos hv]
      refine ⟨fun r hr => ?_, fun c hc hg => ?_, ih.ord, fun r hr h1 => ?_⟩
      · obtain ⟨h1, h2, h3, h4, h5, h6⟩ := ih.mem r hr
        exact ⟨h1, h2, by omega, h4, h5, h6⟩
      · rcases Nat.lt_or_ge c n with h1 | h1
        · exact ih.cov c h1 hg
        · obtain rfl : c = n := by omega
          exact absurd hv hg
      · obtain ⟨k1, k2, k3, k4, k5, k6⟩ := ih.mem r hr
        by_cases h2 : r.t + 1 < n
        · exact ih.max r hr h2
        · have : (r.t + 1).toNat = n := by omega
          rw [this, hv]
          exact fun e => k4 e.symm
    · rw [if_neg hv]
      cases hlast : l.getLast? with
      | none =>
        have hl : l = [] := List.getLast?_eq_none_iff.1 hlast
        subst hl
        refine ⟨fun r hr => ?_, fun c hc hg => ?_, List.pairwise_singleton _ _, fun r hr h1 => ?_⟩
        · simp only [List.mem_singleton] at hr
          subst hr
          refine ⟨by simp, by simp, by simp; omega, hv, fun c h1 h2 => ?_, ?_⟩
          · simp only at h1 h2
            rw [show c = n by omega]
          · rcases Nat.eq_zero_or_pos n with h0 | h0
            · left; simp [h0]
            · right
              simp only
              intro he
              have h1 : g (n - 1) ≠ 0 := by rw [show ((n : Int) - 1).toNat = n - 1 by omega] at he; rw [he]; exact hv
              obtain ⟨r, hr, _⟩ := ih.cov (n - 1) (by omega) h1
              cases hr
        · rcases Nat.lt_or_ge c n with h1 | h1
          · obtain ⟨r, hr, _⟩ := ih.cov c h1 hg
            cases hr
          · exact ⟨_, List.mem_singleton.2 rfl, by simp; omega, by simp; omega⟩
        · simp only [List.mem_singleton] at hr
          subst hr
          simp at h1
      | some r =>
        have hsplit := last_split hlast
        generalize l.dropLast = d at hsplit
        subst hsplit
        clear hlast
        obtain ⟨k1, k2, k3, k4, k5, k6⟩ := ih.mem r (by simp)
        have hord := ih.ord
        rw [List.pairwise_append] at hord
        obtain ⟨o1, _, o3⟩ := hord
        simp only
        by_cases hx : r.t = (n : Int) - 1 ∧ r.v = g n
        · rw [if_pos hx]
          obtain ⟨x1, x2⟩ := hx
          refine ⟨fun s hs => ?_, fun c hc hg => ?_, ?_, fun s hs h1 => ?_⟩
          · rcases List.mem_append.1 hs with hs | hs
            · obtain ⟨h1, h2, h3, h4, h5, h6⟩ := ih.mem s (List.mem_append_left _ hs)
              exact ⟨h1, h2, by omega, h4, h5, h6⟩
            · simp only [List.mem_singleton] at hs
              subst hs
              refine ⟨k1, by simp only; omega, by simp only; omega, hv, fun c h1 h2 => ?_, ?_⟩
              · simp only at h1 h2 ⊢
                rcases Nat.lt_or_ge c n with h3 | h3
                · rw [k5 c h1 (by omega), x2]
                · rw [show c = n by omega]
              · simp only; rw [← x2]; exact k6
          · rcases Nat.lt_or_ge c n with h1 | h1
            · obtain ⟨s, hs, h2, h3⟩ := ih.cov c h1 hg
              rcases List.mem_append.1 hs with hs | hs
              · exact ⟨s, List.mem_append_left _ hs, h2, h3⟩
              · simp only [List.mem_singleton] at hs
                subst hs
                exact ⟨_, List.mem_append_right _ (List.mem_singleton.2 rfl), h2, by simp only; omega⟩
            · exact ⟨_, List.mem_append_right _ (List.mem_singleton.2 rfl), by simp only; omega, by simp only; omega⟩
          · rw [List.pairwise_append]
            exact ⟨o1, List.pairwise_singleton _ _, fun a ha b hb => by
              simp only [List.mem_singleton] at hb
              subst hb
              exact o3 a ha r (by simp)⟩
          · rcases List.mem_append.1 hs with hs | hs
            · have := o3 s hs r (by simp)
              exact ih.max s (List.mem_append_left _ hs) (by omega)
            · simp only [List.mem_singleton] at hs
              subst hs
              simp only at h1
              omega
        · rw [if_neg hx]
          refine ⟨fun s hs => ?_, fun c hc hg => ?_, ?_, fun s hs h1 => ?_⟩
          · rcases List.mem_append.1 hs with hs | hs
            · obtain ⟨h1, h2, h3, h4, h5, h6⟩ := ih.mem s hs
              exact ⟨h1, h2, by omega, h4, h5, h6⟩
            · simp only [List.mem_singleton] at hs
              subst hs
              refine ⟨by simp, by simp, by simp; omega, hv, fun c h1 h2 => ?_, ?_⟩
              · simp only at h1 h2
                rw [show c = n by omega]
              · rcases Nat.eq_zero_or_pos n with h0 | h0
                · left; simp [h0]
                · right
                  simp only
                  rw [show ((n : Int) - 1).toNat = n - 1 by omega]
                  intro he
                  obtain ⟨s, hs, h1, h2⟩ := ih.cov (n - 1) (by omega) (by rw [he]; exact hv)
                  rcases List.mem_append.1 hs with hs | hs
                  · have := o3 s hs r (by simp)
                    omega
                  · simp only [List.mem_singleton] at hs
                    subst hs
                    have := k5 (n - 1) h1 h2
                    exact hx ⟨by omega, by rw [← this, he]⟩
          · rcases Nat.lt_or_ge c n with h1 | h1
            · obtain ⟨s, hs, h2, h3⟩ := ih.cov c h1 hg
              exact ⟨s, List.mem_append_left _ hs, h2, h3⟩
            · exact ⟨_, List.mem_append_right _ (List.mem_singleton.2 rfl), by simp only; omega, by simp only; omega⟩
          · rw [List.pairwise_append]
            exact ⟨ih.ord, List.pairwise_singleton _ _, fun a ha b hb => by
              simp only [List.mem_singleton] at hb
              subst hb
              have := (ih.mem a ha).2.2.1
              simp only
              omega⟩
          · rcases List.mem_append.1 hs with hs | hs
            · by_cases h2 : s.t + 1 < n
              · exact ih.max s hs h2
              · have hst : s.t = (n : Int) - 1 := by have := (ih.mem s hs).2.2.1; omega
                rw [show (s.t + 1).toNat = n by omega]
                rcases List.mem_append.1 hs with hs | hs
                · have := o3 s hs r (by simp)
                  omega
                · simp only [List.mem_singleton] at hs
                  subst hs
                  exact fun e => hx ⟨hst, e.symm⟩
            · simp only [List.mem_singleton] at hs
              subst hs
              simp at h1
/-- it is a right table, where it is not too long -/
theorem rle_flat {g : Nat → Int} {n : Nat} {l : List Rg} (h : RleOk g n l) (hn : (n : Int) ≤ maxS + 1) (hv : ∀ c, c < n → 0 ≤ g c ∧ g c ≤ 65535) : okL (-1) l := by
  have key : ∀ (l : List Rg) (p : Int), (∀ r ∈ l, 0 ≤ r.f ∧ r.f ≤ r.t ∧ r.t < n ∧ 1 ≤ r.v ∧ r.v ≤ 65535 ∧ p < r.f) → l.Pairwise (fun a b => a.t < b.f) → okL p l := by
    intro l
    induction l with
    | nil => intro _ _ _; trivial
    | cons r l ih =>
      intro p h1 h2
      rw [List.pairwise_cons] at h2
      have hr := h1 r (List.mem_cons_self ..)
      refine ⟨?_, ih r.t (fun s hs => ?_) h2.2⟩
      · unfold okR; omega
      · have := h1 s (List.mem_cons_of_mem _ hs)
        have := h2.1 s hs
        omega
  refine key l (-1) (fun r hr => ?_) h.ord
  obtain ⟨h1, h2, h3, h4, h5, _⟩ := h.mem r hr
  have e := h5 r.f.toNat (by omega) (by omega)
  have := hv r.f.toNat (by omega)
  omega
/-- it says the same -/
theorem rle_look {g : Nat → Int} {n : Nat} {l : List Rg} (h : RleOk g n l) (hf : okL (-1) l) {c : Nat} (hc : c < n) : lookS l c = g c := by
  by_cases hz : g c = 0
  · rw [hz]
    by_cases hl : lookS l c = 0
    · exact hl
    · obtain ⟨r, hr, h1, h2, h3⟩ := lookS_some hl
      obtain ⟨_, _, _, h4, h5, _⟩ := h.mem r hr
      exact absurd ((h5 c h1 h2).symm.trans hz) h4
  · obtain ⟨r, hr, h1, h2⟩ := h.cov c hc hz
    obtain ⟨_, _, _, _, h5, _⟩ := h.mem r hr
    rw [lookS_mem hf hr h1 h2, h5 c h1 h2]
/-- no table that says the same has fewer -/
theorem rle_few {g : Nat → Int} {n : Nat} {l m : List Rg} (h : RleOk g n l) (hm : ∀ c : Nat, c < n → lookS m c = g c) (hk : okL (-1) m) : l.length ≤ m.length := by
  have hn : (l.map Rg.f).Nodup := by
    unfold List.Nodup
    rw [List.pairwise_map]
    refine h.ord.imp_of_mem fun {a b} ha hb hab => ?_
    have := (h.mem a ha).2.1
    have := (h.mem b hb).2.1
    omega
  have := sub_len hn (b := m.map Rg.f) (fun x hx => by
    obtain ⟨r, hr, rfl⟩ := List.mem_map.1 hx
    obtain ⟨h1, h2, h3, h4, h5, h6⟩ := h.mem r hr
    have e := h5 r.f.toNat (by omega) (by omega)
    have e2 := hm r.f.toNat (by omega)
    rw [e] at e2
    obtain ⟨s, hs, k1, k2, k3⟩ := lookS_some (l := m) (c := (r.f.toNat : Int)) (by rw [e2]; exact h4)
    have hsv : s.v = r.v := by rw [← k3, e2]
    refine List.mem_map.2 ⟨s, hs, ?_⟩
    rcases h6 with h6 | h6
    · have := (okL_mem hk hs).1
      omega
    · by_cases hlt : s.f < r.f
      · have e3 := hm (r.f - 1).toNat (by omega)
        rw [lookS_mem hk hs (by omega) (by omega), hsv] at e3
        exact absurd e3.symm h6
      · omega)
  simpa using this
end Go.Proofs.YtildhebaikeknaaGreat

/-! RngPack -/
namespace Go.Proofs.YtildhebaikeknaaGreat

theorem lookS_left : ∀ {a b : List Rg} {c : Int}, (∀ r ∈ b, ¬ (r.f ≤ c ∧ c ≤ r.t)) → lookS (a ++ b) c = lookS a c
  | [], [], _, _ => rfl
  | [], r :: b, c, h => by
    have h0 := h r (List.mem_cons_self ..)
    have e : lookS (r :: b) c = lookS b c := by rw [lookS, if_neg h0]
    rw [List.nil_append, e]
    exact lookS_left (a := []) (fun s hs => h s (List.mem_cons_of_mem _ hs))
  | x :: a, b, c, h => by
    rw [List.cons_append, lookS, lookS, lookS_left h]
theorem lookS_right : ∀ {a b : List Rg} {c : Int}, (∀ r ∈ a, ¬ (r.f ≤ c ∧ c ≤ r.t)) → lookS (a ++ b) c = lookS b c
  | [], _, _, _ => rfl
  | x :: a, b, c, h => by
    rw [List.cons_append, lookS, if_neg (h x (List.mem_cons_self ..))]
    exact lookS_right fun r hr => h r (List.mem_cons_of_mem _ hr)
theorem okL_low : ∀ {l : List Rg} {p : Int}, okL p l → ∀ r ∈ l, p < r.f
  | [], _, _, _, hm => by cases hm
  | x :: l, p, h, r, hm => by
    have hx := h.1
    unfold okR at hx
    rcases List.mem_cons.1 hm with rfl | hm
    · omega
    · have := okL_low h.2 r hm; omega
theorem okL_pair : ∀ {l : List Rg} {p : Int}, okL p l → l.Pairwise fun a b => a.t < b.f
  | [], _, _ => List.Pairwise.nil
  | _ :: _, _, h => List.pairwise_cons.2 ⟨fun r hr => okL_low h.2 r hr, okL_pair h.2⟩
theorem take_rg {l : List Rg} {i : Nat} (h : i < l.length) : l.take (i + 1) = l.take i ++ [l.getD i noRg] := by
  rw [List.take_add_one, List.getD_eq_getElem?_getD, List.getElem?_eq_getElem h]; rfl
theorem mem_take_rg {l : List Rg} {i : Nat} {r : Rg} (h : r ∈ l.take i) : ∃ j, j < i ∧ j < l.length ∧ l.getD j noRg = r := by
  obtain ⟨j, hj, rfl⟩ := List.getElem_of_mem h
  rw [List.length_take] at hj
  exact ⟨j, by omega, by omega, by rw [List.getD_eq_getElem?_getD, List.getElem?_eq_getElem (by omega)]; simp⟩
theorem mem_drop_rg {l : List Rg} {i : Nat} {r : Rg} (h : r ∈ l.drop i) : ∃ j, i ≤ j ∧ j < l.length ∧ l.getD j noRg = r := by
  obtain ⟨j, hj, rfl⟩ := List.getElem_of_mem h
  rw [List.length_drop] at hj
  exact ⟨i + j, by omega, by omega, by rw [List.getD_eq_getElem?_getD, List.getElem?_eq_getElem (by omega)]; simp⟩
theorem rg_pair {l : List Rg} (h : okL (-1) l) {i j : Nat} (hij : i < j) (hj : j < l.length) : (l.getD i noRg).t < (l.getD j noRg).f := by
  have := List.pairwise_iff_getElem.1 (okL_pair h) i j (by omega) hj hij
  rw [List.getD_eq_getElem?_getD, List.getD_eq_getElem?_getD, List.getElem?_eq_getElem (by omega), List.getElem?_eq_getElem hj]
  exact this
theorem rg_ok {l : List Rg} (h : okL (-1) l) {i : Nat} (hi : i < l.length) : 0 ≤ (l.getD i noRg).f ∧ (l.getD i noRg).f ≤ (l.getD i noRg).t ∧ (l.getD i noRg).t ≤ 1114111 ∧ 1 ≤ (l.getD i noRg).v ∧ (l.getD i noRg).v ≤ 65535 := by
  rw [List.getD_eq_getElem?_getD, List.getElem?_eq_getElem hi]
  exact okL_mem h (List.getElem_mem hi)
theorem pk_start {l : List Rg} {a : Nat} {b c : Int} (h : ∀ j, j < a → (l.getD j noRg).t < b) (hc : b ≤ c) : lookS (l.take a) c = 0 := by
  have := lookS_right (a := l.take a) (b := []) (c := c) fun r hr => by
    obtain ⟨j, hj, _, rfl⟩ := mem_take_rg hr
    have := h j hj
    omega
  rw [List.append_nil] at this
  rw [this]
  rfl
theorem pk_hit {l : List Rg} (h : okL (-1) l) {i : Nat} (hi : i < l.length) {c : Int} (hc : (l.getD i noRg).f ≤ c ∧ c ≤ (l.getD i noRg).t) : lookS (l.take (i + 1)) c = (l.getD i noRg).v := by
  rw [take_rg hi, lookS_right fun r hr => by
    obtain ⟨j, hj, _, rfl⟩ := mem_take_rg hr
    have := rg_pair h hj hi
    omega]
  rw [lookS, if_pos hc]
theorem pk_miss {l : List Rg} {i : Nat} (hi : i < l.length) {c : Int} (hc : ¬ ((l.getD i noRg).f ≤ c ∧ c ≤ (l.getD i noRg).t)) : lookS (l.take (i + 1)) c = lookS (l.take i) c := by
  rw [take_rg hi]
  exact lookS_left fun r hr => by
    simp only [List.mem_singleton] at hr
    subst hr
    exact hc
theorem pk_end {l : List Rg} (h : okL (-1) l) {i : Nat} {b c : Int} (hi : i = l.length ∨ b ≤ (l.getD i noRg).f) (hc : c < b) : lookS (l.take i) c = lookS l c := by
  have e : lookS (l.take i ++ l.drop i) c = lookS (l.take i) c := lookS_left fun r hr => by
    obtain ⟨j, hj, hjl, rfl⟩ := mem_drop_rg hr
    rcases hi with hi | hi
    · omega
    · rcases Nat.lt_or_ge i j with h1 | h1
      · have := rg_pair h h1 hjl
        have := rg_ok h (show i < l.length by omega)
        omega
      · obtain rfl : i = j := by omega
        omega
  rw [List.take_append_drop] at e
  exact e.symm

/-- a row of numbers as cells -/
def iv (ys : List Int) : List Value := ys.map (Value.int .i64)
theorem iv_len (ys : List Int) : (iv ys).length = ys.length := by simp [iv]
theorem iv_at {ys : List Int} {i : Nat} (h : i < ys.length) : (iv ys)[i]? = some (.int .i64 (ys.getD i 0)) := by
  simp [iv, List.getD_eq_getElem?_getD, List.getElem?_eq_getElem h]
theorem iv_set (ys : List Int) (i : Nat) (v : Int) : (iv ys).set i (.int .i64 v) = iv (ys.set i v) := by simp [iv, List.map_set]
theorem set_getD {ys : List Int} {i j : Nat} {v : Int} (h : i < ys.length) : (ys.set i v).getD j 0 = if j = i then v else ys.getD j 0 := by
  simp only [List.getD_eq_getElem?_getD, List.getElem?_set]
  by_cases hij : i = j
  · subst hij; simp [h]
  · rw [if_neg hij, if_neg (fun e => hij e.symm)]
theorem con_len (v : Int) : (con v).length = 256 := List.length_replicate
theorem con_at {v : Int} {i : Nat} (h : i < 256) : (con v).getD i 0 = v := by
  rw [List.getD_eq_getElem?_getD, List.getElem?_eq_getElem (by rw [con_len]; exact h)]
  exact List.getElem_replicate _
theorem blk_eq {g : Nat → Int} {k : Nat} {ys : List Int} (hl : ys.length = 256) (h : ∀ j, j < 256 → ys.getD j 0 = g (256 * k + j)) : ys = blk g k := by
  apply List.ext_getElem (by rw [hl, blk_len])
  intro i h1 h2
  have := h i (by omega)
  rw [← blk_at g k i (by omega), List.getD_eq_getElem?_getD, List.getD_eq_getElem?_getD, List.getElem?_eq_getElem h1, List.getElem?_eq_getElem h2] at this
  exact this
/-- searching the blocks one by one -/
theorem idx_found {bs : List (List Int)} {b : List Int} {q : Nat} (hq : q < bs.length) (hb : bs.getD q [] = b) (hn : ∀ i, i < q → bs.getD i [] ≠ b) : bs.idxOf b = q := by
  have hm : b ∈ bs := by
    rw [← hb, List.getD_eq_getElem?_getD, List.getElem?_eq_getElem hq]
    exact List.getElem_mem hq
  have h1 := List.idxOf_lt_length_iff.2 hm
  have h2 : bs.getD (bs.idxOf b) [] = b := by
    rw [List.getD_eq_getElem?_getD, List.getElem?_eq_getElem h1]; simp
  rcases Nat.lt_trichotomy (bs.idxOf b) q with h | h | h
  · exact absurd h2 (hn _ h)
  · exact h
  · have h3 : b ∈ bs.take (q + 1) := by
      rw [List.take_add_one, List.getElem?_eq_getElem hq]
      refine List.mem_append_right _ ?_
      rw [List.getD_eq_getElem?_getD, List.getElem?_eq_getElem hq] at hb
      simp only [Option.getD_some] at hb
      simp [hb]
    have h4 : bs.idxOf b = (bs.take (q + 1)).idxOf b := by
      conv => lhs; rw [← List.take_append_drop (q + 1) bs]
      rw [List.idxOf_append, if_pos h3]
    have h5 := List.idxOf_lt_length_iff.2 h3
    rw [List.length_take] at h5
    omega
theorem idx_none {bs : List (List Int)} {b : List Int} (hn : ∀ i, i < bs.length → bs.getD i [] ≠ b) : b ∉ bs := fun hm => by
  have h1 := List.idxOf_lt_length_iff.2 hm
  refine hn _ h1 ?_
  rw [List.getD_eq_getElem?_getD, List.getElem?_eq_getElem h1]
  simp
theorem pack_next {g : Nat → Int} {k : Nat} (h : blk g k ∉ (packN g k).2) : (packN g (k + 1)).1 = (packN g k).1 ++ [(packN g k).2.length] ∧ (packN g (k + 1)).2 = (packN g k).2 ++ [blk g k] := by
  rw [packN]
  exact ⟨by rw [List.idxOf_eq_length h], by rw [if_neg h]⟩
theorem pack_same {g : Nat → Int} {k : Nat} (h : blk g k ∈ (packN g k).2) : (packN g (k + 1)).1 = (packN g k).1 ++ [(packN g k).2.idxOf (blk g k)] ∧ (packN g (k + 1)).2 = (packN g k).2 := by
  rw [packN]
  exact ⟨rfl, by rw [if_pos h]⟩
theorem nats_snoc (l : List Nat) (n : Nat) : nats (l ++ [n]) = nats l ++ [(n : Int)] := by simp [nats]
theorem flatten_snoc (bs : List (List Int)) (b : List Int) : (bs ++ [b]).flatten = bs.flatten ++ b := by simp
end Go.Proofs.YtildhebaikeknaaGreat

/-! OwnG -/
namespace Go.Proofs.YtildhebaikeknaaGreat
open Go.RowKit

/-- ranges as cells -/
def gv : List Rg → List Value
  | [] => []
  | r :: l => .int .i64 r.f :: .int .i64 r.t :: .int .i64 r.v :: gv l
theorem gv_len : ∀ l : List Rg, (gv l).length = l.length * 3
  | [] => rfl
  | r :: l => by rw [gv, List.length_cons, List.length_cons, List.length_cons, gv_len l, List.length_cons]; omega
theorem gv_app : ∀ l m : List Rg, gv (l ++ m) = gv l ++ gv m
  | [], _ => rfl
  | r :: l, m => by rw [List.cons_append, gv, gv, gv_app l m]; rfl
theorem gv_at : ∀ {l : List Rg} {i : Nat}, i < l.length → (gv l)[i * 3]? = some (.int .i64 (l.getD i noRg).f) ∧ (gv l)[i * 3 + 1]? = some (.int .i64 (l.getD i noRg).t) ∧ (gv l)[i * 3 + 2]? = some (.int .i64 (l.getD i noRg).v)
  | [], _, h => by simp at h
  | r :: l, 0, _ => by simp [gv]
  | r :: l, i + 1, h => by
    have ih := gv_at (l := l) (i := i) (by simpa using h)
    rw [gv, show (i + 1) * 3 = i * 3 + 3 by omega]
    simpa using ih
theorem gv_set : ∀ {l : List Rg} {i : Nat} (c : Int), i < l.length → (gv l).set (i * 3 + 1) (.int .i64 c) = gv (l.set i ⟨(l.getD i noRg).f, c, (l.getD i noRg).v⟩)
  | [], _, _, h => by simp at h
  | r :: l, 0, c, _ => by simp [gv]
  | r :: l, i + 1, c, h => by
    have ih := gv_set (l := l) (i := i) c (by simpa using h)
    rw [gv, show (i + 1) * 3 + 1 = i * 3 + 1 + 3 by omega]
    simp only [List.set_cons_succ, List.getD_cons_succ, ih, gv]
theorem gv_oneCell : ∀ (l : List Rg), ∀ u ∈ gv l, u.oneCell' = true
  | [], _, h => by cases h
  | r :: l, u, h => by
    rw [gv] at h
    simp only [List.mem_cons] at h
    rcases h with rfl | rfl | rfl | h
    · rfl
    · rfl
    · rfl
    · exact gv_oneCell l u h

/-- A slice of ranges of the call's own. -/
def OwnG (e base : Nat) (w : World) (v : Value) (l : List Rg) : Prop := w.ownsRow base e 3 v l.length (gv l)
theorem OwnG.nil (e base : Nat) (w : World) : OwnG e base w (.slice none 0 0) [] := World.ownsRow_nil _ _ _ _
theorem OwnG.drewN {e base : Nat} {w : World} {v : Value} {l : List Rg} (h : OwnG e base w v l) (n : Nat) : OwnG e base (w.drewN n) v l := h
theorem OwnG.sg {e base : Nat} {w : World} {v : Value} {l : List Rg} (h : OwnG e base w v l) : Sg w v l := by
  obtain ⟨h1, h2⟩ := h
  rcases h2 with ⟨rfl, hn⟩ | ⟨g, cap, cur, rfl, hb, hg, hnc, hcm, hcs, ht⟩
  · exact ⟨none, 0, by rw [hn], by omega, by unfold maxLen; omega, .inl rfl⟩
  · have key : ∀ j, j < l.length * 3 → w.cell? ⟨g, 0 + j, none⟩ = (gv l)[j]? := fun j hj => by
      rw [cell_of_row w g (0 + j) cur e (0, 0) hg, ← ht, List.getElem?_take, if_pos hj]
      simp
    refine ⟨some ⟨g, 0, none⟩, cap, rfl, hnc, hcm, .inr ⟨g, 0, rfl, fun _ => (Array.getElem?_eq_some_iff.1 hg).1, fun i hi => ?_⟩⟩
    obtain ⟨a1, a2, a3⟩ := gv_at hi
    exact ⟨(key (i * 3) (by omega)).trans a1, (key (i * 3 + 1) (by omega)).trans a2, (key (i * 3 + 2) (by omega)).trans a3⟩
theorem OwnG.below {e base : Nat} {w w' : World} {v : Value} {l : List Rg} (h : OwnG e base w v l) (hb : Below w.heap.size w w') : OwnG e base w' v l := by
  obtain ⟨h1, h2⟩ := h
  refine ⟨h1, ?_⟩
  rcases h2 with h2 | ⟨g, cap, cur, hv, hg, hh, r⟩
  · exact .inl h2
  · exact .inr ⟨g, cap, cur, hv, hg, by rw [hb.block g (Array.getElem?_eq_some_iff.1 hh).1]; exact hh, r⟩
/-- the last one's end is written over -/
theorem OwnG.last {e base : Nat} {w : World} {v : Value} {l : List Rg} (h : OwnG e base w v l) {i : Nat} (hi : i < l.length) (c : Int) : ∃ g cap, v = .slice (some ⟨g, 0, none⟩) l.length cap ∧ base ≤ g ∧ w.frozen? ⟨g, i * 3 + 1, none⟩ = false ∧
    OwnG e base (w.setCell ⟨g, i * 3 + 1, none⟩ (.int .i64 c)) v (l.set i ⟨(l.getD i noRg).f, c, (l.getD i noRg).v⟩) := by
  obtain ⟨h1, h2⟩ := h
  rcases h2 with ⟨rfl, hn⟩ | ⟨g, cap, cur, rfl, hb, hg, hnc, hcm, hcs, ht⟩
  · omega
  · refine ⟨g, cap, rfl, hb, frozen_of_row w g _ cur e hg, ?_⟩
    refine ⟨by rw [gv_len], .inr ⟨g, cap, cur.setIfInBounds (i * 3 + 1) (.int .i64 c), by rw [List.length_set], hb, ?_, by rw [List.length_set]; exact hnc, hcm, by simpa using hcs, ?_⟩⟩
    · show (w.setCell ⟨g, i * 3 + 1, none⟩ (.int .i64 c)).heap[g]? = _
      simp [World.setCell, Array.getElem?_modify, hg]
    · rw [← gv_set c hi, ← ht, Array.toList_setIfInBounds, List.length_set, List.take_set]
theorem OwnG.mono {e base base' : Nat} {w : World} {v : Value} {l : List Rg} (h : OwnG e base w v l) (hb : base' ≤ base) : OwnG e base' w v l := by
  obtain ⟨h1, h2⟩ := h
  refine ⟨h1, ?_⟩
  rcases h2 with h2 | ⟨g, cap, cur, hv, hg, r⟩
  · exact .inl h2
  · exact .inr ⟨g, cap, cur, hv, by omega, r⟩
theorem OwnG.form {e base : Nat} {w : World} {v : Value} {l : List Rg} (h : OwnG e base w v l) : ∃ a c, v = .slice a l.length c := h.sg.form
/-- where it lies, what its cells hold -/
theorem OwnG.open_ {e base : Nat} {w : World} {v : Value} {l : List Rg} (h : OwnG e base w v l) {i : Nat} (hi : i < l.length) : ∃ g cap, v = .slice (some ⟨g, 0, none⟩) l.length cap ∧ base ≤ g ∧ g < w.heap.size ∧
    w.cell? ⟨g, i * 3 + 1, none⟩ = some (.int .i64 (l.getD i noRg).t) ∧ w.cell? ⟨g, i * 3 + 2, none⟩ = some (.int .i64 (l.getD i noRg).v) ∧ w.frozen? ⟨g, i * 3 + 1, none⟩ = false ∧
    ∀ c, OwnG e base (w.setCell ⟨g, i * 3 + 1, none⟩ (.int .i64 c)) v (l.set i ⟨(l.getD i noRg).f, c, (l.getD i noRg).v⟩) := by
  have hl := fun c => h.last hi c
  obtain ⟨h1, h2⟩ := h
  rcases h2 with ⟨rfl, hn⟩ | ⟨g, cap, cur, rfl, hb, hg, hnc, hcm, hcs, ht⟩
  · omega
  · have key : ∀ j, j < l.length * 3 → w.cell? ⟨g, j, none⟩ = (gv l)[j]? := fun j hj => by
      rw [cell_of_row w g j cur e (0, 0) hg, ← ht, List.getElem?_take, if_pos hj]
      simp
    obtain ⟨_, a2, a3⟩ := gv_at hi
    refine ⟨g, cap, rfl, hb, (Array.getElem?_eq_some_iff.1 hg).1, (key (i * 3 + 1) (by omega)).trans a2, (key (i * 3 + 2) (by omega)).trans a3, frozen_of_row w g _ cur e hg, fun c => ?_⟩
    obtain ⟨g', cap', he, _, _, hown⟩ := hl c
    injection he with he _ _
    injection he with he
    injection he with he
    subst he
    exact hown
/-- append(dst, r) -/
theorem wpList_appG {P : Program} (w : World) {ops : Array Oper} {rest : List Oper} {o : Oper} {a : Act} {Q : Exit → Act → World → Prop} (hgd : o.guard = none) (s x : Operand) (t : TypeId)
    (ho : o.op = .call { callee := .builtin .append, args := #[s, x], argTypes := #[t, t] })
    (base e : Nat) (bytes : Nat) (i : TypeInfo) (z : Value) (ht : P.underlying t = some (.slice e)) (hi : P.info? e = some i) (hz : i.zero = some z) (hsize : i.size = 3) (hby : i.bytes = bytes) (hzs : z.cells.size = 3)
    (v : Value) (l : List Rg) (hs : a.eval s = v) (hown : OwnG e base w v l) (b : Nat) (r : Rg) (hx : a.eval x = .slice (some ⟨b, 0, none⟩) 1 1)
    (hc : w.cell? ⟨b, 0, none⟩ = some (.int .i64 r.f) ∧ w.cell? ⟨b, 1, none⟩ = some (.int .i64 r.t) ∧ w.cell? ⟨b, 2, none⟩ = some (.int .i64 r.v))
    (h63 : l.length + 1 ≤ maxLen) (hbytes : (l.length + 1) * bytes ≤ 140737488355328) (hbase : base ≤ w.heap.size)
    (h : ∀ g cap w', OwnG e base w' (.slice (some ⟨g, 0, none⟩) (l.length + 1) cap) (l ++ [r]) → Below base w w' → wpList P ops Q rest (a.put o.dst (.slice (some ⟨g, 0, none⟩) (l.length + 1) cap)) w') : wpList P ops Q (o :: rest) a w := by
  refine wpList_append_lies w hgd s x t ho base e i z 3 bytes ht hi hz hsize hby hzs (by decide) v l.length (gv l) hs hown ⟨b, 0, none⟩ 1 1 (gv [r]) hx (by simp [gv]) ?_ (gv_oneCell [r]) (by decide) h63 hbytes hbase w.heap.size rfl ?_
  · intro j u hj
    match j, hj with
    | 0, hj => simp [gv] at hj; subst hj; simpa [Addr.add] using hc.1
    | 1, hj => simp [gv] at hj; subst hj; simpa [Addr.add] using hc.2.1
    | 2, hj => simp [gv] at hj; subst hj; simpa [Addr.add] using hc.2.2
    | j + 3, hj => simp [gv] at hj
  · intro g cap w' hown' hg _ _
    exact h g cap w' (by unfold OwnG; rw [gv_app, List.length_append]; exact hown') ((Below.refl base w).grown hg hbase (fun k hk => (World.ownsRow.lt hown k hk).1))
end Go.Proofs.YtildhebaikeknaaGreat
