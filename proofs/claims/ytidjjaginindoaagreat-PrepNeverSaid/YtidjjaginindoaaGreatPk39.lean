/- Several texts in one: ItM12, Fol12a, Fol12b. -/
import Derived.Test.YtidjjaginindoaaGreatPk14
import Derived.Test.YtidjjaginindoaaGreatPk21
import Derived.Test.YtidjjaginindoaaGreatPk34
/-! ItM12 -/
namespace Go.Proofs.YtidjjaginindoaaGreat
open Go.RowKit Go.Shelf

/-- What is in the map at M: numbers, each with nothing or with its folding, its block among the Z; every number that has a folding is there. -/
def MapF (Z : Nat → Prop) (M : Nat) (W : World) : Prop := ∃ es clock, W.heap[M]? = some (.map es clock) ∧ (∀ e ∈ es.toList, ∃ c xs, e.key = .int .i64 c ∧ inI c = true ∧ (xs = [] ∨ xs = foldS c) ∧ SlZ Z W e.val xs) ∧ ∀ c, mapS tabFolds c ≠ [] → ∃ e ∈ es.toList, e.key = .int .i64 c
theorem MapF.move {Z Z' : Nat → Prop} {M : Nat} {W W' : World} (h : MapF Z M W) (hs : W.heap.size ≤ W'.heap.size) (hM : W'.heap[M]? = W.heap[M]?) (hz : ∀ b, Z b → W'.heap[b]? = W.heap[b]? ∧ Z' b) : MapF Z' M W' := by
  obtain ⟨es, clock, hm, he, hf⟩ := h
  refine ⟨es, clock, hM.trans hm, fun e hin => ?_, hf⟩
  obtain ⟨c, xs, h1, h2, h3, h4⟩ := he e hin
  exact ⟨c, xs, h1, h2, h3, h4.move hs hz⟩
theorem MapF.lt {Z : Nat → Prop} {M : Nat} {W : World} (h : MapF Z M W) : M < W.heap.size := by
  obtain ⟨es, clock, hm, _⟩ := h
  exact (Array.getElem?_eq_some_iff.1 hm).1
theorem MapF.nocells {Z : Nat → Prop} {M : Nat} {W : World} (h : MapF Z M W) : NoCells W (some M) := fun r e => by
  cases e
  obtain ⟨es, clock, hm, _⟩ := h
  exact ⟨_, hm, rfl⟩
theorem MapF.mono {Z Z' : Nat → Prop} {M : Nat} {W : World} (h : MapF Z M W) (hz : ∀ b, Z b → Z' b) : MapF Z' M W := h.move (Nat.le_refl _) rfl (fun b hb => ⟨rfl, hz b hb⟩)

/-- the memory of a folding under way: the collecting loop's variable in box B, the map at M -/
structure MemF (M B n₀ : Nat) (t : TypeId) (W : World) : Prop where
  size : n₀ ≤ W.heap.size
  above : n₀ ≤ M
  box : InvB B t W
  map : MapF (FreeOf B t W) M W
theorem MemF.kr {M B n₀ : Nat} {t : TypeId} {W W' : World} (h : MemF M B n₀ t W) (hk : KR n₀ B t W W') : MemF M B n₀ t W' := by
  refine ⟨Nat.le_trans h.size hk.1.1.size, h.above, hk.1.inv h.box, h.map.move hk.1.1.size ?_ (fun b hb => hk.free h.box hb)⟩
  obtain ⟨es, clock, hm, _⟩ := h.map
  exact (hk.2.same _ _ hm rfl).trans hm.symm
theorem MemF.grown {M B n₀ : Nat} {t : TypeId} {W W' : World} {row : Option Nat} (h : MemF M B n₀ t W) (hg : W.grownBy W' row) (hr : NoCells W row) (hne : row ≠ some M) : MemF M B n₀ t W' := by
  refine ⟨Nat.le_trans h.size hg.size, h.above, h.box.grown hg hr, h.map.move hg.size (hg.block M h.map.lt (fun e => hne e.symm)) (fun b hb => ⟨hb.same hg hr, hb.grown h.box hg hr⟩)⟩

/-- The contract of an iterator that gives xs: called at yield l, while St and the memory stand. -/
def GivesF (P : Program) (gf : Nat) (lb : Array Value) (M B n₀ : Nat) (t : TypeId) (St : World → Prop) (xs : List Int) : Prop :=
  ∀ (m l : Nat) (J : List Int → World → Prop) (W : World), AbidesM W.heap.size M J →
    (∀ m' pre x W1, J pre W1 → MemF M B n₀ t W1 → pre.length < xs.length → YieldAt Fence.wide m' P l #[.int .i64 x] W1 fun e W' => e = .returned (.bool true) ∧ J (pre ++ [x]) W' ∧ KR n₀ B t W1 W') →
    J [] W → St W → MemF M B n₀ t W →
    CallsIn Fence.wide m P gf (#[.func (.yield l) #[] #[]] ++ lb) W fun e W' => (∃ v, e = .returned v) ∧ J xs W' ∧ MemF M B n₀ t W'

theorem wpIn_rangeFunc_F {P : Program} {n : Nat} {g : Operand} {ps : Array Tmp} {assign body : Code} {Q : Exit → Act → World → Prop} {a : Act} {w : World}
    {gf : Nat} {lb : Array Value} (hg : a.eval g = .func (.func gf) #[] lb) (eg : ∀ args w, (callFunc gf args).run P w = .ok (.enter gf args) w)
    {M B n₀ : Nat} {t : TypeId} {St : World → Prop} {xs : List Int} (hseq : GivesF P gf lb M B n₀ t St xs) (hSt : ∀ o o', St ((w.alloc o).alloc o')) (hmem : MemF M B n₀ t w) (hps : ps.size = 1)
    (I : List Int → World → Prop) (hI : AbidesM w.heap.size M I) (h0 : I [] w) (a₁ : Int → Act)
    (hassign : ∀ (l : Nat) (x : Int) (W : World) (K : Act → World → Prop), K (a₁ x) W →
      assign.wpIn (Fence.wide.inRound l) (n - 1 - 1) P (Exit.then K (fun _ _ _ => False)) { tmps := (ps.zip #[.int .i64 x]).foldl (fun t (p, v) => t.setIfInBounds p v) a.tmps, defers := [] } W)
    (hbody : ∀ (l : Nat) (pre : List Int) (x : Int) (W : World), I pre W → MemF M B n₀ t W → pre.length < xs.length → body.wpIn (Fence.wide.inRound l) (n - 1 - 1) P (roundM n₀ B t I (pre ++ [x]) W) (a₁ x) W)
    (hdone : ∀ (D : Nat) (W : World), w.heap.size ≤ D → I xs W → MemF M B n₀ t W → W.heap[D]? = some (.deferred (some [])) → Q .normal { a with defers := { target := .collected D, args := #[] } :: a.defers } W) :
    (Code.rangeFunc g ps assign body).wpIn Fence.wide n P Q a w := by
  refine wpIn_rangeFunc ?_
  intro fn hfn
  obtain ⟨rec, hrec⟩ : ∃ rec : LoopState → Option Code → Loop, rec = fun st pe => { state := st, pending := pe, fn, tmps := a.tmps, params := ps, assign, body, defers := w.heap.size } := ⟨_, rfl⟩
  obtain ⟨W1, hW1⟩ : ∃ W1, (w.alloc (.deferred (some []))).alloc (.loop (rec .ready none)) = W1 := ⟨_, rfl⟩
  have hL1 : W1.heap[w.heap.size + 1]? = some (.loop (rec .ready none)) := by
    rw [← hW1]; have := World.alloc_heap_new (w.alloc (.deferred (some []))) (.loop (rec .ready none)); rwa [World.size_alloc] at this
  have hK1 : W1.heap[w.heap.size]? = some (.deferred (some [])) := by
    rw [← hW1]; exact (Below.heap_alloc _ _ _ (by simp)).trans (World.alloc_heap_new w _)
  have hI1 : I [] W1 := by rw [← hW1]; exact hI.alloc (hI.alloc h0 _) _
  have hM1 : MemF M B n₀ t W1 := by
    rw [← hW1]
    exact (hmem.grown (World.grownBy_alloc w _ none) (NoCells.none _) (by simp)).grown (World.grownBy_alloc _ _ none) (NoCells.none _) (by simp)
  have hs1 : W1.heap.size = w.heap.size + 2 := by rw [← hW1]; simp
  have hMlt := hmem.map.lt
  have hnw := hmem.size
  refine ⟨w.heap.size + 1, [{ target := .collected w.heap.size, args := #[] }], W1, { target := .fn (.func gf) lb, args := #[.func (.yield (w.heap.size + 1)) #[] #[]] }, W1, gf,
    #[.func (.yield (w.heap.size + 1)) #[] #[]] ++ lb, W1, ?_, ?_, ?_, ?_, fun h => (by cases h), ?_⟩
  · rw [← hW1, hrec]; exact run_enterLoop_outer _ _ _ _ _
  · simp only [resolve, hg]
    simp [go_sem]
  · intro f' hf'; trivial
  · simp [invoke, go_sem, eg]
  · refine (hseq (n - 1) (w.heap.size + 1)
      (fun pre W => I pre W ∧ W.heap[w.heap.size + 1]? = some (.loop (rec .ready none)) ∧ W.heap[w.heap.size]? = some (.deferred (some [])))
      W1 ((hI.mono (by omega)).and ((abidesM_obj (by omega) (by omega)).and (abidesM_obj (by omega) (by omega)))) ?_ ⟨hI1, hL1, hK1⟩ (by rw [← hW1]; exact hSt _ _) hM1).mono ?_
    · rintro m' pre x W ⟨hi, hl, hk⟩ hm hlen
      have hy := run_yield (P := P) (args := #[.int .i64 x]) hl (by rw [hrec]; simp [hps])
      rw [hrec] at hy
      refine ⟨fn, _, assign, body, hy, round_anyDepth rfl (m := n - 1 - 1) (roundIn_of_wpIn hfn (hassign _ x W _ ⟨_, run_beginRound hl (by rw [hrec]), ?_⟩))⟩
      have hl2 : (W.putObj (w.heap.size + 1) (.loop { rec .ready none with state := .busy })).heap[w.heap.size + 1]? = some (.loop { rec .ready none with state := .busy }) := World.putObj_heap_same (Array.getElem?_eq_some_iff.1 hl).1
      have hk2 : (W.putObj (w.heap.size + 1) (.loop { rec .ready none with state := .busy })).heap[w.heap.size]? = some (.deferred (some [])) := (World.putObj_heap_other (by omega)).trans hk
      have hrow : KeepRow n₀ B t W (W.putObj (w.heap.size + 1) (.loop { rec .ready none with state := .busy })) := keepRow_putObj (m := w.heap.size) hnw _ _ _ _ (by omega) hl rfl
      have hm2 : MemF M B n₀ t (W.putObj (w.heap.size + 1) (.loop { rec .ready none with state := .busy })) := hm.grown (grownBy_putObj' W _ _) (fun r e => by cases e; exact ⟨_, hl, rfl⟩) (by simp; omega)
      refine wpIn_mono (hbody _ pre x _ (hI.putObj hi _ (by omega) hl rfl) hm2 hlen) ?_
      rintro e a3 W3 hp
      cases e with
      | normal =>
        obtain ⟨hk3, hi3⟩ := hp
        have hl3 := hk3.2.same _ _ hl2 rfl
        have hr3 := run_endRound (P := P) none hl3
        have e3 : (Loop.mk .ready none fn a.tmps ps assign body w.heap.size) = rec .ready none := by rw [hrec]
        refine ⟨_, _, hr3, rfl, ⟨hI.putObj hi3 _ (by omega) hl3 rfl, ?_, (World.putObj_heap_other (by omega)).trans (hk3.2.same _ _ hk2 rfl)⟩, (hrow.trans hk3.1).trans (keepRow_putObj (m := w.heap.size) hnw _ _ _ _ (by omega) hl3 rfl), ?_, ?_⟩
        · rw [World.putObj_heap_same (Array.getElem?_eq_some_iff.1 hl3).1]
          rw [hrec]
          rfl
        · exact Nat.le_trans (Nat.le_trans (grownBy_putObj' W _ _).size hk3.2.size) (grownBy_putObj' W3 _ _).size
        · intro k o hko hoc
          by_cases hkl : k = w.heap.size + 1
          · subst hkl
            rw [hl] at hko
            cases hko
            rw [World.putObj_heap_same (Array.getElem?_eq_some_iff.1 hl3).1, hrec]
            rfl
          · exact (World.putObj_heap_other hkl).trans (hk3.2.same k o ((World.putObj_heap_other hkl).trans hko) hoc)
      | ret => exact hp.elim
      | exit id => exact hp.elim
      | goto t => exact hp.elim
      | panic ch => exact hp.elim
      | outgrown => exact hp.elim
    · rintro e W2 ⟨⟨v, rfl⟩, ⟨hi, hl, hk⟩, hm⟩
      exact ⟨none, _, by have := run_endLoop (P := P) hl (by rw [hrec]; simp); rw [hrec] at this; exact this, hdone _ _ (Nat.le_refl _) (hI.putObj hi _ (by omega) hl rfl) (hm.grown (grownBy_putObj' W2 _ _) (fun r e => by cases e; exact ⟨_, hl, rfl⟩) (by simp; omega)) ((World.putObj_heap_other (by omega)).trans hk)⟩
end Go.Proofs.YtidjjaginindoaaGreat

/-! Fol12a -/
namespace Go.Proofs.YtidjjaginindoaaGreat
open Go.RowKit Go.Shelf

set_option maxHeartbeats 1000000 in
theorem foldOneO (c : Int) (w : World) : Calls Tryz.prog 104 #[.int .i64 c] w fun e w' => ∃ x, e = .returned x ∧ Own .i64 3 w.heap.size w' x (foldS c) ∧ Below w.heap.size w w' := by
  by_cases hc : mapS tabFolds c = []
  · have HCE := hid hc
    have HP := hid (fold_none hc)
    clear hc
    go_enter Tryz.func104, Tryz.ntmps104
    go_wp2_with (go_at_call 120; refine (ucdFoldO c _).mono ?_; rintro e w2 ⟨v2, rfl, ho2, hb2⟩; have HB2 := hid hb2; rw [HCE.out] at ho2; obtain ⟨a2, c2, hv2⟩ := ho2.sl.form; subst hv2; simp only [List.length_nil]; clear ho2 hb2)
    go_ret
    have ho4 := lit_own (k := .i64) (w := w2) (xs := [c]) (e := 3) (base := w2.heap.size) (n := w2.heap.size) (len := 1) (cs := #[.int .i64 c]) rfl (Nat.le_refl _) rfl rfl (by simp)
    exact ⟨_, rfl, by rw [HP.out]; exact ho4.mono HB2.out.size, HB2.out.alloc HB2.out.size _⟩
  · have HP := hid (fold_some hc)
    obtain ⟨n, hn⟩ : ∃ n, n = (mapS tabFolds c).length := ⟨_, rfl⟩
    have hn0 : 0 < n := by rw [hn]; exact List.length_pos_iff.2 hc
    have HN := hid hn
    clear hc hn
    go_enter Tryz.func104, Tryz.ntmps104
    go_wp2_with (go_at_call 120; refine (ucdFoldO c _).mono ?_; rintro e w2 ⟨v2, rfl, ho2, hb2⟩; have HB2 := hid hb2; have HO2 := hid ho2; obtain ⟨a2, c2, hv2⟩ := ho2.sl.form; rw [← HN.out] at hv2; subst hv2; clear ho2 hb2)
    go_ret
    exact ⟨_, rfl, by rw [HP.out]; exact HO2.out, HB2.out⟩

/-- the map while it is made: the numbers of l, each with nothing -/
def MapF0 (l : List Mp) (M : Nat) (W : World) : Prop := ∃ es clock, W.heap[M]? = some (.map es clock) ∧ (∀ e ∈ es.toList, ∃ c, e.key = .int .i64 c ∧ inI c = true ∧ e.val = .slice none 0 0) ∧ ∀ m ∈ l, ∃ e ∈ es.toList, e.key = .int .i64 m.f
theorem MapF0.nil {M : Nat} {W : World} (h : W.heap[M]? = some (.map #[] 0)) : MapF0 [] M W := ⟨_, _, h, fun e he => by simp at he, fun m hm => by cases hm⟩
theorem MapF0.lt {l : List Mp} {M : Nat} {W : World} (h : MapF0 l M W) : M < W.heap.size := by
  obtain ⟨es, clock, hm, _⟩ := h
  exact (Array.getElem?_eq_some_iff.1 hm).1
theorem MapF0.below {l : List Mp} {M : Nat} {w w' : World} (h : MapF0 l M w) (hb : Below w.heap.size w w') : MapF0 l M w' := by
  have hl := h.lt
  obtain ⟨es, clock, hm, h2⟩ := h
  exact ⟨es, clock, (hb.block M hl).trans hm, h2⟩
theorem folds_inI : (tabFolds.all fun m => inI m.f) = true := by decide +kernel
theorem mapS_mem {l : List Mp} {c : Int} (h : mapS l c ≠ []) : ∃ m ∈ l, m.f = c := by
  have key : ∀ l : List Mp, (fndM c l).1.t ≠ [] → ∃ m ∈ l, m.f = c := fun l => by
    induction l with
    | nil => intro h; exact absurd rfl h
    | cons m l ih =>
      intro h
      rw [fndM] at h
      split at h
      · rename_i he
        exact ⟨m, List.mem_cons_self, by simpa using he⟩
      · obtain ⟨m', h1, h2⟩ := ih h
        exact ⟨m', List.mem_cons_of_mem _ h1, h2⟩
  unfold mapS at h
  split at h
  · exact key l h
  · exact absurd rfl h
theorem nilSl (w : World) : Sl .i64 w (.slice none 0 0) [] := ⟨none, 0, rfl, Nat.le_refl _, by decide, .inl rfl⟩
theorem MapF0.full {M : Nat} {W : World} (h : MapF0 tabFolds M W) (Z : Nat → Prop) : MapF Z M W := by
  obtain ⟨es, clock, hm, h1, h2⟩ := h
  refine ⟨es, clock, hm, fun e he => ?_, fun c hc => ?_⟩
  · obtain ⟨c, a1, a2, a3⟩ := h1 e he
    refine ⟨c, [], a1, a2, .inl rfl, ?_⟩
    rw [a3]
    exact ⟨nilSl W, fun a n c e h0 => by cases h0⟩
  · obtain ⟨m, hm, rfl⟩ := mapS_mem hc
    exact h2 m hm
theorem MapF0.store {l : List Mp} {m : Mp} {M : Nat} {W : World} (h : MapF0 l M W) (hi : inI m.f = true) : ∃ W', (Instr.mapUpdate 63 (.map (some M)) (.int .i64 m.f) (.slice none 0 0)).run Tryz.prog W = .ok () W' ∧ W.grownBy W' (some M) ∧ MapF0 (l ++ [m]) M W' := by
  obtain ⟨es, clock, hM, h1, h2⟩ := h
  obtain ⟨W', hst, hg, es', ck', hM', hx, hk, hn⟩ := store_ints2 (P := Tryz.prog) (T := 63) Tryz.underlying63 Tryz.underlying3 hM (fun y hy => by obtain ⟨c, a1, a2, _⟩ := h1 y hy; exact ⟨c, a1, a2⟩) hi (.slice none 0 0)
  refine ⟨W', hst, hg, es', ck', hM', fun e he => ?_, fun x hx' => ?_⟩
  · rcases hx e he with he | ⟨a1, a2⟩
    · exact h1 e he
    · exact ⟨_, a1, hi, a2⟩
  · rcases List.mem_append.1 hx' with hx' | hx'
    · obtain ⟨y, hy, hye⟩ := h2 x hx'
      obtain ⟨z, hz, hze⟩ := hk y hy
      exact ⟨z, hz, hze.trans hye⟩
    · rw [List.mem_singleton.1 hx']
      exact hn
theorem take_snocM {l : List Mp} {k : Nat} (h : k < l.length) : l.take (k + 1) = l.take k ++ [l.getD k noMp] := by
  rw [List.take_succ_eq_append_getElem h, List.getD_eq_getElem?_getD, List.getElem?_eq_getElem h]
  rfl

set_option maxRecDepth 10000 in
set_option maxHeartbeats 4000000 in
theorem newFolder12 (w : World) : Calls Tryz.prog 50 #[] w fun e w' => ∃ M, e = .returned (.map (some M)) ∧ w.heap.size ≤ M ∧ MapF0 tabFolds M w' ∧ Below w.heap.size w w' := by
  have HIN := hid (fun k (hk : k < tabFolds.length) => (show inI (tabFolds.getD k noMp).f = true from by
    have := List.all_eq_true.1 folds_inI (tabFolds[k]'hk) (List.getElem_mem hk)
    rwa [List.getD_eq_getElem?_getD, List.getElem?_eq_getElem hk]))
  obtain ⟨L, hL⟩ : ∃ L, L = tabFolds := ⟨_, rfl⟩
  have HAF := hid (fun w => (apiFolds w))
  rw [← hL] at HIN HAF ⊢
  clear hL
  obtain ⟨n, hn⟩ : ∃ n, n = L.length := ⟨_, rfl⟩
  have HN := hid hn
  go_enter Tryz.func50, Tryz.ntmps50
  go_wp2_with (fail)
  simp only [run_makeMap, Result.andThen]
  obtain ⟨W1, hW1⟩ : ∃ W1, W1 = w.alloc (.map #[] 0) := ⟨_, rfl⟩
  obtain ⟨M, hM⟩ : ∃ M, M = w.heap.size := ⟨_, rfl⟩
  have HM0 := hid (show MapF0 (L.take 0) M W1 by rw [hW1, hM]; exact MapF0.nil (heap_alloc_new w (.map #[] 0)))
  have HB0 := hid (show Below w.heap.size w W1 by rw [hW1]; (repeat (first | exact Below.refl _ _ | exact below_drewN _ | refine Below.drew ?_ | refine Below.alloc ?_ (by simp) _ | refine Below.setCell ?_ (by simp) _ | refine below_drewN' ?_ _)))
  have HMM := hid hM
  rw [← hW1, ← hM]
  clear hW1 hM
  go_wp2_with (go_at_call 57; refine (HAF.out _).mono ?_; rintro e w2 ⟨v2, rfl, hs2, hb2⟩; have HS2 := hid hs2.smO; have HB2 := hid (HB0.out.trans (hb2.mono HB0.out.size)); have HM2 := hid (HM0.out.below hb2); obtain ⟨a2, c2, hv2⟩ := HS2.out.form; rw [← HN.out] at hv2; subst hv2; clear hs2 hb2)
  have ml := HS2.out.len
  rw [← HN.out] at ml
  have HG2 := hid (show w2.grownBy w2 (some M) from ⟨rfl, rfl, rfl, Nat.le_refl _, fun _ _ _ => rfl⟩)
  go_loopw [7] (fun iv wr => ∃ k : Nat, k ≤ n ∧ iv = .int .i64 k ∧ Hid (Below w.heap.size w wr) ∧ Hid (w2.grownBy wr (some M)) ∧ Hid (MapF0 (L.take k) M wr)) (fun iv _ => n - (intOf iv).toNat)
  case atStart => exact ⟨0, by omega, rfl, HB2.out, HG2.out, HM2.out⟩
  case round =>
    obtain ⟨k, hk, rfl, hbel, hgr, hmc⟩ := hrel
    by_cases hlt : k < n
    · obtain ⟨av0, cap0, hv0, hq0, -, c0⟩ := HS2.out
      injection hv0 with hv1 hv2 hv3
      subst hv1 hv3
      rcases c0 with hc | ⟨b1, o1, rfl, hb1, c1⟩
      · have := HN.out
        omega
      have hb1' := hb1 (by have := HN.out; omega)
      obtain ⟨d1, ux, d2, d3⟩ := c1 k (by have := HN.out; omega)
      obtain ⟨au, cu, hux⟩ := d3.sl.form
      have hsame : wr.heap[b1]? = w2.heap[b1]? := hgr.out.block b1 hb1' (fun e => by
        obtain ⟨o, ho, hoc⟩ := cells_of_cell d1
        obtain ⟨es, ck, hm, _⟩ := HM2.out
        have e' : b1 = M := by simpa using e
        rw [e'] at ho
        rw [ho] at hm
        cases hm
        cases hoc)
      have d1 := (World.cell?_of_block (a := ⟨b1, o1 + k * 2, none⟩) hsame).trans d1
      have d2 := (World.cell?_of_block (a := ⟨b1, o1 + k * 2 + 1, none⟩) hsame).trans d2
      have i1 := HIN.out k (by have := HN.out; omega)
      have HUP := hid (take_snocM (l := L) (k := k) (by have := HN.out; omega))
      clear c1 hv2 d3 hsame
      generalize L.getD k noMp = r at d1 d2 i1 HUP hux
      obtain ⟨rf, rt⟩ := r
      simp only at d1 d2 i1 HUP hux
      obtain ⟨nr, hnr⟩ : ∃ nr, nr = rt.length := ⟨_, rfl⟩
      rw [← hnr] at hux
      subst hux
      clear hnr
      have HI := hid i1
      clear i1
      have HBX := hid (Box.made wr 97 [.int .i64 rf, (.slice au nr cu)])
      have HBW := hid (show Below wr.heap.size wr (wr.alloc (.cells #[.int .i64 rf, (.slice au nr cu)] 97)) from (Below.refl _ _).alloc (Nat.le_refl _) _)
      obtain ⟨w5, hst, hg5, hm5⟩ := (hmc.out.below HBW.out).store (m := ⟨rf, rt⟩) HI.out
      have HG5 := hid hg5
      have HM5 := hid hm5
      clear hg5 hm5
      have hst := hst
      go_wp2_with (at_mapUpdate; refine wpList_storeInts rfl _ _ _ 63 rfl M rf (.slice none 0 0) rfl rfl rfl hst ?_)
      go_roundw
      case rel => exact ⟨k + 1, by omega, by go_num, (hbel.out.trans (HBW.out.mono hbel.out.size)).grown HG5.out (Nat.le_trans hbel.out.size HBW.out.size) (fun r e => by injection e with e; have := HMM.out; omega), grown_chain hgr.out (grown_chain (grown_some M HBW.out) HG5.out), by show MapF0 _ _ _; rw [HUP.out]; exact HM5.out⟩
      case measure => simp [intOf]; omega
    · obtain rfl : k = n := by omega
      go_wp2_with (fail)
      go_ret
      exact ⟨_, rfl, by have := HMM.out; omega, by have := hmc.out; rwa [List.take_of_length_le (by have := HN.out; omega)] at this, hbel.out⟩
end Go.Proofs.YtidjjaginindoaaGreat

/-! Fol12b -/
namespace Go.Proofs.YtidjjaginindoaaGreat
open Go.RowKit Go.Shelf
attribute [local go_sem] Oper.semAt_some

/-- the iterator over one number -/
def fnO (b : Nat) : Value := .func (.func 119) #[] #[.pointer (some ⟨b, 0, none⟩)]
def StO (Z : Nat → Prop) (W : World) (b : Nat) (c : Int) : Prop := Boxed W b 3 (.int .i64 c) ∧ Z b
theorem StO.move {Z Z' : Nat → Prop} {W W' : World} {b : Nat} {c : Int} (h : StO Z W b c) (hz : ∀ b, Z b → W'.heap[b]? = W.heap[b]? ∧ Z' b) : StO Z' W' b c :=
  ⟨(hz b h.2).1.trans h.1, (hz b h.2).2⟩
/-- fv is an iterator that gives xs -/
def IterF (Z : Nat → Prop) (W : World) (fv : Value) (xs : List Int) : Prop :=
  (∃ b, fv = fnV b ∧ StV Z W b xs) ∨ (∃ b c, fv = fnO b ∧ StO Z W b c ∧ xs = [c])
theorem IterF.move {Z Z' : Nat → Prop} {W W' : World} {fv : Value} {xs : List Int} (h : IterF Z W fv xs) (hs : W.heap.size ≤ W'.heap.size) (hz : ∀ b, Z b → W'.heap[b]? = W.heap[b]? ∧ Z' b) : IterF Z' W' fv xs := by
  rcases h with ⟨b, h1, h2⟩ | ⟨b, c, h1, h2, h3⟩
  · exact .inl ⟨b, h1, h2.move hs hz⟩
  · exact .inr ⟨b, c, h1, h2.move hz, h3⟩
theorem only12 (c : Int) (w : World) (Z : Nat → Prop) :
    Calls Tryz.prog 103 #[.int .i64 c] w fun e w' => e = .returned (fnO w.heap.size) ∧ StO (Zn Z w w') w' w.heap.size c ∧ Below w.heap.size w w' := by
  have hb : Below w.heap.size w (w.alloc (.cells #[.int .i64 c] 3)) := (Below.refl _ w).alloc (Nat.le_refl _) _
  have hbx := Boxed.new w 3 (.int .i64 c)
  have HST := hid (show StO (Zn Z w (w.alloc (.cells #[.int .i64 c] 3))) (w.alloc (.cells #[.int .i64 c] 3)) w.heap.size c from ⟨hbx, ⟨⟨_, hbx, rfl⟩, .inr (Nat.le_refl _)⟩⟩)
  clear hbx
  go_enter Tryz.func103, Tryz.ntmps103
  go_wp2_with (fail)
  go_ret
  exact ⟨rfl, HST.out, hb⟩

theorem mapF_same {M : Nat} {w w' : World} {Z : Nat → Prop} (hZ : ∀ b, Z b → ∃ o : Obj, w.heap[b]? = some o ∧ o.isCells = true) (hm : MapF Z M w) (hb : Below w.heap.size w w') : MapF (Zn Z w w') M w' :=
  hm.move hb.size (hb.block M hm.lt) (zn_old hZ hb)
theorem mapF_add {Z : Nat → Prop} {M e : Nat} {w w2 w' : World} {es es' : Array MapEntry} {clock clock' : Nat} {c : Int} {x : Value} (hZ : ∀ b, Z b → ∃ o : Obj, w.heap[b]? = some o ∧ o.isCells = true)
    (hm : w.heap[M]? = some (.map es clock)) (he : ∀ y ∈ es.toList, ∃ c xs, y.key = .int .i64 c ∧ inI c = true ∧ (xs = [] ∨ xs = foldS c) ∧ SlZ Z w y.val xs) (hf : ∀ c, mapS tabFolds c ≠ [] → ∃ e ∈ es.toList, e.key = .int .i64 c) (h12 : Below w.heap.size w w2) (ho : Own .i64 e w.heap.size w2 x (foldS c))
    (hg : w2.grownBy w' (some M)) (hM' : w'.heap[M]? = some (.map es' clock')) (hx : ∀ y ∈ es'.toList, y ∈ es.toList ∨ (y.key = .int .i64 c ∧ y.val = x)) (hk : ∀ x ∈ es.toList, ∃ y ∈ es'.toList, y.key = x.key) (hi : inI c = true) :
    w.grownBy w' (some M) ∧ MapF (Zn Z w w') M w' ∧ SlZ (Zn Z w w') w' x (foldS c) := by
  have hml := (Array.getElem?_eq_some_iff.1 hm).1
  have hg' : w.grownBy w' (some M) := ⟨hg.os.trans h12.os, hg.tape.trans h12.tape, hg.output.trans h12.output, Nat.le_trans h12.size hg.size, fun k hk hne => (hg.block k (Nat.lt_of_lt_of_le hk h12.size) hne).trans (h12.block k hk)⟩
  have hnc : NoCells w (some M) := fun r e => by cases e; exact ⟨_, hm, rfl⟩
  have hxs : SlZ (Zn Z w w') w' x (foldS c) := ho.slZ.move hg.size (fun b hb => by
    obtain ⟨hb1, o, hb2, hb3⟩ := hb
    have hs : w'.heap[b]? = w2.heap[b]? := hg.block b (Array.getElem?_eq_some_iff.1 hb2).1 (fun e => by
      have e' : b = M := by simpa using e
      omega)
    exact ⟨hs, ⟨o, hs.trans hb2, hb3⟩, .inr hb1⟩)
  refine ⟨hg', ⟨es', clock', hM', fun y hy => ?_, fun c' hc' => ?_⟩, hxs⟩
  · rcases hx y hy with hy | ⟨h1, h2⟩
    · obtain ⟨c', xs, h1, h2, h3, h4⟩ := he y hy
      exact ⟨c', xs, h1, h2, h3, h4.move hg'.size (fun b hb => same_cells hZ hnc hg' hb)⟩
    · exact ⟨c, foldS c, h1, hi, .inr rfl, by rw [h2]; exact hxs⟩
  · obtain ⟨y, hy, hye⟩ := hf c' hc'
    obtain ⟨z, hz, hze⟩ := hk y hy
    exact ⟨z, hz, hze.trans hye⟩
theorem stV_of {Z : Nat → Prop} {w w2 w3 : World} {b : Nat} {xs : List Int} (h1 : w.heap.size ≤ w2.heap.size) (h : StV (Zn (Zn Z w w2) w2 w3) w3 b xs) : StV (Zn Z w w3) w3 b xs := h.move (Nat.le_refl _) (fun _ h => ⟨rfl, zn_zn h1 h⟩)
theorem mapF_chain {Z : Nat → Prop} {M : Nat} {w w2 w3 : World} (h1 : w.heap.size ≤ w2.heap.size) (hm : MapF (Zn Z w w2) M w2) (hb : Below w2.heap.size w2 w3) : MapF (Zn Z w w3) M w3 :=
  (mapF_same zn_cells hm hb).mono (fun _ h => zn_zn h1 h)
theorem foldS_pos (c : Int) : 0 < (foldS c).length := by
  unfold foldS
  split
  · exact Nat.one_pos
  · rename_i h
    exact List.length_pos_iff.2 (by simpa using h)

set_option maxRecDepth 10000 in
set_option maxHeartbeats 2000000 in
theorem parts12 (M : Nat) (c : Int) (w : World) (Z : Nat → Prop) (hi : inI c = true) (hZ : ∀ b, Z b → ∃ o : Obj, w.heap[b]? = some o ∧ o.isCells = true) (hm : MapF Z M w) :
    Calls Tryz.prog 82 #[.map (some M), .int .i64 c] w fun e w' => ∃ fv, e = .returned fv ∧ w.grownBy w' (some M) ∧ MapF (Zn Z w w') M w' ∧ IterF (Zn Z w w') w' fv (foldS c) := by
  have hzv : (zeroValue 22).run Tryz.prog w = .ok (.slice none 0 0) w := by kernel_rfl
  have hnc := hm.nocells
  have HMS := hid (fun (w' : World) (hb : Below w.heap.size w w') => mapF_same hZ hm hb)
  obtain ⟨es, clock, hme, hes, hfs⟩ := hm
  have hks : IntKeys es := fun y hy => by obtain ⟨c', xs, h1, h2, _⟩ := hes y hy; exact ⟨c', h1, h2⟩
  have HES := hid hes
  have HFS := hid hfs
  have HZZ := hid hZ
  have HNC := hid hnc
  have HKS := hid hks
  have HME := hid hme
  clear hes hfs hZ hnc
  rcases look_ints2 (P := Tryz.prog) (T := 63) Tryz.underlying63 Tryz.underlying3 hzv hme hks hi with ⟨hlook, hno⟩ | ⟨e0, he0, hek, hlook⟩
  · have HF := hid (show foldS c = [c] from fold_none (Classical.byContradiction fun h => by
      obtain ⟨y, hy, hye⟩ := HFS.out c h
      exact hno y hy hye))
    clear hzv hks hme hno
    go_enter Tryz.func82, Tryz.ntmps82
    go_wp2_with (first
      | (at_lookup; refine wpList_lookInts rfl _ _ 63 rfl M c rfl rfl hlook ?_)
      | (go_at_call 103; refine (only12 c _ Z).mono ?_; rintro e w2 ⟨rfl, hs2, hb2⟩; have HS2 := hid hs2; have HB2 := hid hb2; clear hs2 hb2))
    go_ret
    exact ⟨_, rfl, grown_some M HB2.out, HMS.out _ HB2.out, .inr ⟨_, c, rfl, HS2.out, HF.out⟩⟩
  · obtain ⟨c', xs, h1, _, h3, h4⟩ := HES.out e0 he0
    rw [hek] at h1
    cases h1
    obtain ⟨a0, c0, hv0⟩ := h4.1.form
    rw [hv0] at hlook h4
    clear hzv hks hme hek he0 hv0
    rcases h3 with rfl | rfl
    · have H4 := hid h4
      simp only [List.length_nil] at hlook
      clear h4
      go_enter Tryz.func82, Tryz.ntmps82
      go_wp2_with (first
        | (at_lookup; refine wpList_lookInts rfl _ _ 63 rfl M c rfl rfl hlook ?_)
        | (go_at_call 104; refine (foldOneO c _).mono ?_; rintro e w2 ⟨v2, rfl, ho2, hb2⟩; have HB2 := hid hb2; have HO2 := hid ho2; obtain ⟨w3, hst, hg3, es3, ck3, hM3, hx3, hk3, hn3⟩ := store_ints2 (P := Tryz.prog) (T := 63) Tryz.underlying63 Tryz.underlying3 ((hb2.block M (Array.getElem?_eq_some_iff.1 HME.out).1).trans HME.out) HKS.out hi v2; have HAD := hid (mapF_add HZZ.out HME.out HES.out HFS.out hb2 ho2 hg3 hM3 hx3 hk3 hi); obtain ⟨a2, c2, hv2⟩ := ho2.sl.form; obtain ⟨n2, hn2⟩ : ∃ n2, n2 = (foldS c).length := ⟨_, rfl⟩; rw [← hn2] at hv2; subst hv2; clear ho2 hb2 hg3 hM3 hx3 hk3 hn3 hn2)
        | (at_mapUpdate; refine wpList_storeInts rfl _ _ _ 63 rfl M c (.slice a2 n2 c2) rfl rfl rfl hst ?_)
        | (go_at_call 105; refine (values8 _ (foldS c) _ _ zn_cells HAD.out.2.2).mono ?_; rintro e w5 ⟨rfl, hs5, hb5⟩; have HS5 := hid hs5; have HB5 := hid hb5; clear hs5 hb5))
      go_ret
      exact ⟨_, rfl, grown_chain HAD.out.1 (grown_some M HB5.out), mapF_chain HAD.out.1.size HAD.out.2.1 HB5.out, .inl ⟨_, rfl, stV_of HAD.out.1.size HS5.out⟩⟩
    · have H4 := hid h4
      obtain ⟨n, hn⟩ : ∃ n, n = (foldS c).length := ⟨_, rfl⟩
      have hn0 : 0 < n := by rw [hn]; exact foldS_pos c
      rw [← hn] at hlook H4
      have hn1 : (n == 0) = false := by simp; omega
      clear h4 hn
      go_enter Tryz.func82, Tryz.ntmps82
      go_wp2_with (first
        | (at_lookup; refine wpList_lookInts rfl _ _ 63 rfl M c rfl rfl hlook ?_)
        | (go_at_call 105; refine (values8 _ (foldS c) _ Z HZZ.out H4.out).mono ?_; rintro e w5 ⟨rfl, hs5, hb5⟩; have HS5 := hid hs5; have HB5 := hid hb5; clear hs5 hb5))
      go_ret
      exact ⟨_, rfl, grown_some M HB5.out, HMS.out _ HB5.out, .inl ⟨_, rfl, HS5.out⟩⟩

def fnF (bs bf : Nat) : Value := .func (.func 81) #[] #[.pointer (some ⟨bs, 0, none⟩), .pointer (some ⟨bf, 0, none⟩)]
/-- an iterator over the foldings of a slice's numbers -/
def StF (M : Nat) (Z : Nat → Prop) (W : World) (bs bf : Nat) (ps : List Int) : Prop := StV Z W bs ps ∧ Z bf ∧ Boxed W bf 63 (.map (some M))
theorem each12 (M : Nat) (v : Value) (xs : List Int) (w : World) (Z : Nat → Prop) (hZ : ∀ b, Z b → ∃ o : Obj, w.heap[b]? = some o ∧ o.isCells = true) (h : SlZ Z w v xs) :
    Calls Tryz.prog 51 #[.map (some M), v] w fun e w' => e = .returned (fnF (w.heap.size + 1) w.heap.size) ∧ StF M (Zn Z w w') w' (w.heap.size + 1) w.heap.size xs ∧ Below w.heap.size w w' := by
  have hb : Below w.heap.size w ((w.alloc (.cells #[.map (some M)] 63)).alloc (.cells #[v] 22)) := ((Below.refl _ w).alloc (Nat.le_refl _) _).alloc (by simp) _
  have hbx := Boxed.new (w.alloc (.cells #[.map (some M)] 63)) 22 v
  rw [World.size_alloc] at hbx
  have hbd : Boxed ((w.alloc (.cells #[.map (some M)] 63)).alloc (.cells #[v] 22)) w.heap.size 63 (.map (some M)) := (Boxed.new w 63 (.map (some M))).alloc _
  have HST := hid (show StF M (Zn Z w ((w.alloc (.cells #[.map (some M)] 63)).alloc (.cells #[v] 22))) ((w.alloc (.cells #[.map (some M)] 63)).alloc (.cells #[v] 22)) (w.heap.size + 1) w.heap.size xs from
    ⟨⟨v, hbx, ⟨⟨_, hbx, rfl⟩, .inr (Nat.le_succ _)⟩, h.move (by simp; omega) (zn_old hZ hb)⟩, ⟨⟨_, hbd, rfl⟩, .inr (Nat.le_refl _)⟩, hbd⟩)
  obtain ⟨a, cap, hv⟩ := h.1.form
  subst hv
  clear hbx hbd h hZ
  go_enter Tryz.func51, Tryz.ntmps51
  go_wp2_with (fail)
  go_ret
  exact ⟨rfl, HST.out, hb⟩

theorem onlyGives (M B n₀ b : Nat) (c : Int) : GivesF Tryz.prog 119 #[.pointer (some ⟨b, 0, none⟩)] M B n₀ 22 (fun W => StO (FreeOf B 22 W) W b c) [c] := by
  intro m l J W hJ hY h0 hSt hM
  have hc0 := hSt.1.cell
  have HY2 := hY m [] c W h0 hM (by simp)
  have HMM := hid hM
  clear hY hJ h0 hSt hM
  refine callsIn_of_wp Tryz.func119 rfl trivial ?_ rfl
  simp only [Tryz.ntmps119, List.size_toArray, List.length_cons, List.length_nil, Nat.reduceAdd, Nat.reduceSub, Array.replicate_succ, Array.replicate_zero, List.push_toArray, List.append_toArray, List.nil_append, List.cons_append]
  obtain ⟨fn, tmps, assign, body, hy, hR⟩ := HY2
  gi_wp2_with ((try refine ⟨wideD _, ?_⟩); refine (round_anyDepth rfl hR).mono ?_; clear hR; rintro e W2 ⟨rfl, hJ2, hk2⟩; have HJ2 := hid hJ2; have HK2 := hid hk2; clear hJ2 hk2)
  exact bodyPost_end (results_none rfl _ _ _) rfl ⟨⟨_, rfl⟩, HJ2.out, HMM.out.kr HK2.out⟩
set_option maxRecDepth 100000 in
set_option maxHeartbeats 2000000 in
theorem valuesGivesF (M B n₀ b : Nat) (xs : List Int) :
    GivesF Tryz.prog 121 #[.pointer (some ⟨b, 0, none⟩)] M B n₀ 22 (fun W => StV (FreeOf B 22 W) W b xs) xs := by
  intro m l J W hJ hY h0 hSt hM
  obtain ⟨v, hv, hb, hs⟩ := hSt
  have hc0 := hv.cell
  obtain ⟨a, cap, hvf⟩ := hs.1.form
  subst hvf
  have hlen := hs.1.len
  obtain ⟨n, hn⟩ : ∃ n, n = xs.length := ⟨_, rfl⟩
  have HN := hid hn
  have HS := hid hs
  have HH := hid (show xs.take n = xs from by rw [hn, List.take_length])
  have HYY := hid hY
  have HTK := hid (fun j (hj : j < n) => (show xs.take (j + 1) = xs.take j ++ [xs.getD j 0] from by
    have e : xs.getD j 0 = xs[j]'(by omega) := by rw [List.getD_eq_getElem?_getD, List.getElem?_eq_getElem (by omega)]; rfl
    rw [e, List.take_succ_eq_append_getElem (by omega)]))
  rw [← hn] at hlen hc0
  clear hY hs hn hb hJ
  refine callsIn_of_wp Tryz.func121 rfl trivial ?_ rfl
  simp only [Tryz.ntmps121, List.size_toArray, List.length_cons, List.length_nil, Nat.reduceAdd, Nat.reduceSub, Array.replicate_succ, Array.replicate_zero, List.push_toArray, List.append_toArray, List.nil_append, List.cons_append]
  gi_wp2
  gi_loopw [7] (fun iv wr => ∃ j : Nat, j ≤ n ∧ iv = .int .i64 j ∧ Hid (J (xs.take j) wr) ∧ Hid (MemF M B n₀ 22 wr) ∧ Hid (SlZ (FreeOf B 22 wr) wr (.slice a n cap) xs)) (fun iv _ => n - (intOf iv).toNat)
  case atStart => exact ⟨0, by omega, rfl, h0, hM, by show SlZ _ _ _ _; rw [HN.out]; exact HS.out⟩
  case round =>
    obtain ⟨j, hj, rfl, hJj, hMj, hSj⟩ := hrel
    by_cases hlt : j < n
    · have hsl := hSj.out.1
      obtain ⟨a2, c2, hv2, hq2, -, h2⟩ := hsl
      injection hv2 with e1 e2 e3
      subst e1 e3
      rcases h2 with hc | ⟨b1, o1, rfl, hbb, hc⟩
      · have := HN.out
        omega
      have d1 := hc j (by have := HN.out; omega)
      have HTK2 := hid (HTK.out j hlt)
      have HY2 := HYY.out m (xs.take j) (xs.getD j 0) wr hJj.out hMj.out (by rw [List.length_take]; have := HN.out; omega)
      clear hc hbb HTK hq2 e2 HYY
      generalize xs.getD j 0 = y at d1 HTK2 HY2
      obtain ⟨fn, tmps, assign, body, hy, hR⟩ := HY2
      gi_wp2_with ((try refine ⟨wideD _, ?_⟩); refine (round_anyDepth rfl hR).mono ?_; clear hR; rintro e W2 ⟨rfl, hJ2, hk2⟩; have HJ2 := hid hJ2; have HK2 := hid hk2; clear hJ2 hk2)
      go_roundw
      case rel => exact ⟨j + 1, by omega, by go_num, by show J _ _; rw [HTK2.out]; exact HJ2.out, hMj.out.kr HK2.out, hSj.out.move HK2.out.1.1.size (fun b hb => HK2.out.free hMj.out.box hb)⟩
      case measure => simp [intOf]; omega
    · obtain rfl : j = n := by omega
      gi_wp2
      exact bodyPost_end (results_none rfl _ _ _) rfl ⟨⟨_, rfl⟩, by rw [← HH.out]; exact hJj.out, hMj.out⟩
end Go.Proofs.YtidjjaginindoaaGreat
