/- Several texts in one: Fol12c, Fol12d. -/
import Derived.Test.YtidjjaginindoaaGreatPk39
import Derived.Test.YtidjjaginindoaaGreatPk34
import Derived.Test.YtidjjaginindoaaGreatPk24
/-! Fol12c -/
namespace Go.Proofs.YtidjjaginindoaaGreat
open Go.RowKit Go.Shelf
attribute [local go_sem] Oper.semAt_some

/-- what the iterator has in hand: its slice, its folder, the yield that it was called at -/
structure EachF (M B : Nat) (t : TypeId) (v yv : Value) (ps : List Int) (b2 Y : Nat) (X : World) : Prop where
  slice : SlZ (FreeOf B t X) X v ps
  free2 : FreeOf B t X b2
  fol : Boxed X b2 63 (.map (some M))
  freeY : FreeOf B t X Y
  yield : X.heap[Y]? = some (.cells #[yv] 52)
theorem EachF.move {M B : Nat} {t : TypeId} {v yv : Value} {ps : List Int} {b2 Y : Nat} {X X' : World} (h : EachF M B t v yv ps b2 Y X) (hs : X.heap.size ≤ X'.heap.size) (hz : ∀ b, FreeOf B t X b → X'.heap[b]? = X.heap[b]? ∧ FreeOf B t X' b) : EachF M B t v yv ps b2 Y X' :=
  ⟨h.slice.move hs hz, (hz _ h.free2).2, (hz _ h.free2).1.trans h.fol, (hz _ h.freeY).2, (hz _ h.freeY).1.trans h.yield⟩
theorem foldAll_one (c : Int) : foldAllS [c] = foldS c := by
  unfold foldAllS
  simp
theorem iter_givesF {M B n₀ : Nat} {Z : Nat → Prop} {w : World} {fv : Value} {xs : List Int}
    (h : IterF Z w fv xs) (hi : InvB B 22 w) (hZ : ∀ b, Z b → FreeOf B 22 w b) :
    ∃ gf lb St, fv = .func (.func gf) #[] lb ∧ (∀ args w, (callFunc gf args).run Tryz.prog w = .ok (.enter gf args) w) ∧ GivesF Tryz.prog gf lb M B n₀ 22 St xs ∧ ∀ o o', St ((w.alloc o).alloc o') := by
  have hz : ∀ o o' b, Z b → ((w.alloc o).alloc o').heap[b]? = w.heap[b]? ∧ FreeOf B 22 ((w.alloc o).alloc o') b := fun o o' b hb => by
    have hg := (((Below.refl w.heap.size w).alloc (Nat.le_refl _) o).alloc (by simp) o')
    have hg' : w.grownBy ((w.alloc o).alloc o') none := ⟨hg.os, hg.tape, hg.output, hg.size, fun k hk _ => hg.block k hk⟩
    exact free_turn hi hg' (NoCells.none _) b (hZ b hb)
  rcases h with ⟨b, h1, h2⟩ | ⟨b, c, h1, h2, h3⟩
  · exact ⟨_, _, _, h1, enters_of Tryz.func121 (by kernel_rfl) rfl, valuesGivesF M B n₀ b xs, fun o o' => h2.move (by simp; omega) (hz o o')⟩
  · exact ⟨_, _, _, h1, enters_of Tryz.func119 (by kernel_rfl) rfl, by rw [h3]; exact onlyGives M B n₀ b c, fun o o' => h2.move (hz o o')⟩

set_option maxRecDepth 100000 in
set_option maxHeartbeats 4000000 in
theorem eachGivesF (M B n₀ : Nat) (b3 b2 : Nat) (ps : List Int) (hps : ∀ c ∈ ps, inI c = true) : GivesF Tryz.prog 81 #[.pointer (some ⟨b3, 0, none⟩), .pointer (some ⟨b2, 0, none⟩)] M B n₀ 22 (fun W => StF M (FreeOf B 22 W) W b3 b2 ps) (foldAllS ps) := by
  intro m l J W hJ hY h0 hSt hM
  obtain ⟨⟨v, hv, hb3, hs⟩, hb2, hdec⟩ := hSt
  have hMlt := hM.map.lt
  have hgY := World.grownBy_alloc W (.cells #[.func (.yield l) #[] #[]] 52) none
  have hmY := hM.grown hgY (NoCells.none _) (by simp)
  have hfY := free_turn hM.box hgY (NoCells.none _)
  have hYb := Boxed.new W 52 (.func (.yield l) #[] #[])
  have hES : EachF M B 22 v (.func (.yield l) #[] #[]) ps b2 W.heap.size (W.alloc (.cells #[.func (.yield l) #[] #[]] 52)) :=
    ⟨hs.move hgY.size hfY, (hfY _ hb2).2, (hfY _ hb2).1.trans hdec, FreeOf.new hM.box hgY (NoCells.none _) (Nat.le_refl _) ⟨_, hYb, rfl⟩, hYb⟩
  have hJY := hJ.alloc h0 (.cells #[.func (.yield l) #[] #[]] 52)
  have hc0 := hv.cell
  have hc1 := (hv.alloc (.cells #[.func (.yield l) #[] #[]] 52)).cell
  obtain ⟨a, cap, hvf⟩ := hs.1.form
  subst hvf
  have hlen := hs.1.len
  obtain ⟨n, hn⟩ : ∃ n, n = ps.length := ⟨_, rfl⟩
  rw [← hn] at hlen hc0 hc1 hES
  have HN := hid hn
  have HES := hid hES
  have HMY := hid hmY
  have HJY := hid hJY
  have HJ := hid hJ
  have HYY := hid hY
  have HPS := hid hps
  clear hn hES hmY hJY hJ hY hps hs hb2 hb3 hdec hfY hYb hM h0 hgY hv hc0
  refine callsIn_of_wp_marks Tryz.func81 rfl trivial ?_ rfl
  simp only [Tryz.ntmps81, List.size_toArray, List.length_cons, List.length_nil, Nat.reduceAdd, Nat.reduceSub, Array.replicate_succ, Array.replicate_zero, List.push_toArray, List.append_toArray, List.nil_append, List.cons_append]
  gi_wp2
  refine wpIn_loop (fun a' X => ∃ (j : Nat) (u5 u10 u11 u12 u13 u14 u15 u21 : Value) (ds : List Deferred), j ≤ n ∧ a' = { tmps := #[.func (.yield l) #[] #[], .pointer (some ⟨b3, 0, none⟩), .pointer (some ⟨b2, 0, none⟩), .pointer (some ⟨W.heap.size, 0, none⟩), undef, u5, undef, .slice a n cap, .int .i64 n, .int .i64 j, u10, u11, u12, u13, u14, u15, undef, undef, undef, undef, undef, u21], defers := ds } ∧ Hid (J (foldAllS (ps.take j)) X) ∧ Hid (MemF M B n₀ 22 X) ∧ Hid (EachF M B 22 (.slice a n cap) (.func (.yield l) #[] #[]) ps b2 W.heap.size X) ∧ Hid (W.heap.size ≤ X.heap.size) ∧ Hid (Marks W.heap.size X ds))
    (fun a' _ => n - (intOf (a'.tmps.getD 9 undef)).toNat) ?start ?round
  case start => exact ⟨0, undef, undef, undef, undef, undef, undef, undef, undef, [], Nat.zero_le _, rfl, HJY.out, HMY.out, HES.out, by show _ ≤ _; simp, trivial⟩
  case round =>
    rintro a' X ⟨j, u5, u10, u11, u12, u13, u14, u15, u21, ds, hj, rfl, hJj, hMj, hEj, hsz, hmk⟩
    by_cases hlt : j < n
    · have hcj : inI (ps.getD j 0) = true := HPS.out _ (by
        have e : ps.getD j 0 = ps[j]'(by have := HN.out; omega) := by rw [List.getD_eq_getElem?_getD, List.getElem?_eq_getElem (by have := HN.out; omega)]; rfl
        rw [e]
        exact List.getElem_mem _)
      have HTK2 := hid (show foldAllS (ps.take (j + 1)) = foldAllS (ps.take j) ++ foldS (ps.getD j 0) from by
        have e : ps.getD j 0 = ps[j]'(by have := HN.out; omega) := by rw [List.getD_eq_getElem?_getD, List.getElem?_eq_getElem (by have := HN.out; omega)]; rfl
        rw [e, List.take_succ_eq_append_getElem (by have := HN.out; omega), foldAll_app]
        rw [foldAll_one])
      have HLE := hid (show (foldAllS (ps.take j)).length + (foldS (ps.getD j 0)).length ≤ (foldAllS ps).length from by
        have h2 : foldAllS ps = foldAllS (ps.take (j + 1)) ++ foldAllS (ps.drop (j + 1)) := by rw [← foldAll_app, List.take_append_drop]
        rw [h2, HTK2.out]
        simp)
      obtain ⟨a2, c2, hv2, hq2, -, h2⟩ := hEj.out.slice.1
      injection hv2 with e1 e2 e3
      subst e1 e3
      rcases h2 with hc | ⟨b1, o1, rfl, hbb, hc⟩
      · have := HN.out
        omega
      have d1 := hc j (by have := HN.out; omega)
      have hbx : Boxed X b2 63 (.map (some M)) := hEj.out.fol
      have d2 := hbx.cell
      clear hc hbb hq2 e2 hbx
      generalize ps.getD j 0 = c at d1 hcj HTK2 HLE
      obtain ⟨P, hP⟩ : ∃ P, P = foldAllS (ps.take j) := ⟨_, rfl⟩
      rw [← hP] at hJj HTK2 HLE
      clear hP
      have HF := hid (parts12 M c X (FreeOf B 22 X) hcj (fun b h => h.1) hMj.out.map)
      clear hcj
      gi_wp2_with (refine ⟨trivial, wideD _, ?_⟩; gi_at_call 82; refine (callsIn_wide.2 HF.out).mono ?_; rintro e X2 ⟨fv, rfl, hg2, hm2, hit2⟩)
      have hnc := hMj.out.map.nocells
      have hi2 := hMj.out.box.grown hg2 hnc
      have hM2 : MemF M B n₀ 22 X2 := ⟨Nat.le_trans hMj.out.size hg2.size, hMj.out.above, hi2, hm2.mono (free_zn hMj.out.box hg2 hnc)⟩
      have hE2 := hEj.out.move hg2.size (free_turn hMj.out.box hg2 hnc)
      have hJ2 := HJ.out _ X X2 (some M) hJj.out hg2 (fun r e => by cases e; exact ⟨.inl rfl, hnc M rfl⟩)
      have hmk2 : Marks W.heap.size X2 ds := hmk.out.turned (fun D hD => hg2.block D (hmk.out.lt D hD) (fun e => by
        have h1 := (hmk.out.at hD).1
        have h2 : D = M := by simpa using e
        omega))
      have hsz2 : W.heap.size ≤ X2.heap.size := Nat.le_trans hsz.out hg2.size
      obtain ⟨gf, lb, St, hfv, heg, hgv, hst⟩ := iter_givesF (M := M) (n₀ := n₀) hit2 hi2 (free_zn hMj.out.box hg2 hnc)
      subst hfv
      clear hit2 hm2 HF d1 d2 hEj hMj hJj hmk
      have HYP := hid (fun m' pre x (Z1 : World) (h : J (P ++ pre) Z1) (hm : MemF M B n₀ 22 Z1) (hl : pre.length < (foldS c).length) => HYY.out m' (P ++ pre) x Z1 h hm (by rw [List.length_append]; have := HLE.out; omega))
      refine wpIn_rangeFunc_F rfl heg hgv hst hM2 rfl (fun pre Z1 => J (P ++ pre) Z1 ∧ (InvB B 22 Z1 ∧ EachF M B 22 (.slice (some ⟨b1, o1, none⟩) n cap) (.func (.yield l) #[] #[]) ps b2 W.heap.size Z1) ∧ Marks W.heap.size Z1 ds)
        (((HJ.out.mono hsz2).fn (fun pre => P ++ pre)).and ((abidesM_cells (fun _ _ _ _ hs hg hr => ⟨hs.1.grown hg hr, hs.2.move hg.size (free_turn hs.1 hg hr)⟩)).and (abidesM_marks hMlt hmk2.lt)))
        ⟨by rw [List.append_nil]; exact hJ2, ⟨hi2, hE2⟩, hmk2⟩
        (fun x => { tmps := #[.func (.yield l) #[] #[], .pointer (some ⟨b3, 0, none⟩), .pointer (some ⟨b2, 0, none⟩), .pointer (some ⟨W.heap.size, 0, none⟩), undef, .int .i64 c, .int .i64 x, .slice (some ⟨b1, o1, none⟩) n cap, .int .i64 n, .int .i64 j, .bool true, .pointer (some ⟨b1, o1 + j, none⟩), .int .i64 c, .map (some M), .int .i64 c, .func (.func gf) #[] lb, .int .i64 x, undef, undef, undef, undef, u21], defers := [] }) ?assign ?body ?done
      case assign =>
        intro l x W K hK
        gi_wp2
        exact hK
      case body =>
        rintro l2 pre x X3 ⟨hJ3, ⟨hi3, hE3⟩, hmk3⟩ hM3 hl3
        have hbY : Boxed X3 W.heap.size 52 (.func (.yield l) #[] #[]) := hE3.yield
        have hcY := hbY.cell
        have HY2 := HYP.out m pre x X3 hJ3 hM3 hl3
        have HE3 := hid hE3
        have HI3 := hid hi3
        have HK3 := hid hmk3
        clear hbY hE3 hi3 hmk3 hJ3 hM3
        obtain ⟨fn, tmps, assign, body, hy, hR⟩ := HY2
        gi_wp2_with ((try refine ⟨wideD _, ?_⟩); refine (round_anyDepth rfl hR).mono ?_; clear hR; rintro e X4 ⟨rfl, hJ4, hk4⟩; have HJ4 := hid hJ4; have HK4 := hid hk4; clear hJ4 hk4)
        exact ⟨HK4.out, by rw [← List.append_assoc]; exact HJ4.out, ⟨HK4.out.1.inv HI3.out, HE3.out.move HK4.out.1.1.size (fun b hb => HK4.out.free HI3.out hb)⟩, HK3.out.others HK4.out.2⟩
      case done =>
        rintro D X3 hD ⟨hJ3, ⟨hi3, hE3⟩, hmk3⟩ hM3 hK
        obtain ⟨j2, hj2⟩ : ∃ j2, j2 = j + 1 := ⟨_, rfl⟩
        have ej : (j : Int) + 1 = (j2 : Int) := by omega
        have wj : wrap64 (j2 : Int) = (j2 : Int) := by unfold wrap64; omega
        have hm2 := hmk3.cons (Nat.le_trans hsz2 hD) hK fun D' h' => Nat.lt_of_lt_of_le (hmk2.lt D' h') hD
        have hle2 : j2 ≤ n := by rw [hj2]; exact hlt
        have hlt2 : n - j2 < n - j := by rw [hj2]; exact Nat.sub_lt_sub_left hlt (Nat.lt_succ_self j)
        rw [← HTK2.out, ← hj2] at hJ3
        have hs3 : W.heap.size ≤ X3.heap.size := Nat.le_of_lt (Nat.lt_of_le_of_lt (Nat.le_trans hsz2 hD) (Array.getElem?_eq_some_iff.1 hK).1)
        clear hj2 hmk3 hgv hst heg HYP HLE HTK2
        gi_wp2
        refine ⟨⟨j2, _, _, _, _, _, _, _, _, _ :: ds, hle2, rfl, hJ3, hM3, hE3, hs3, hm2⟩, ?_⟩
        simpa [intOf] using hlt2
    · obtain rfl : j = n := by omega
      have hJn := hJj.out
      rw [show ps.take j = ps by rw [HN.out, List.take_length]] at hJn
      gi_wp2
      refine leaves_marksM (T := fun w' => J (foldAllS ps) w' ∧ MemF M B n₀ 22 w') (fun w' l' o o' hl hlo hc ht => ⟨HJ.out.putObj ht.1 o' hl hlo hc, ht.2.grown (grownBy_putObj' w' l' o') (fun r e => by cases e; exact ⟨o, hlo, hc⟩) (by simp; omega)⟩) ds X hmk.out ⟨hJn, hMj.out⟩ fun w' hw' => ?_
      exact ⟨_, results_none rfl _ _ _, ⟨_, rfl⟩, hw'⟩
end Go.Proofs.YtidjjaginindoaaGreat

/-! Fol12d -/
namespace Go.Proofs.YtidjjaginindoaaGreat
open Go.RowKit Go.Shelf
attribute [local go_sem] Oper.semAt_some

/-- fv is the iterator that a folder's each hands back -/
def EachI (M : Nat) (Z : Nat → Prop) (W : World) (fv : Value) (xs : List Int) : Prop := ∃ bs bf ps, fv = fnF bs bf ∧ StF M Z W bs bf ps ∧ xs = foldAllS ps ∧ ∀ c ∈ ps, inI c = true
theorem EachI.move {M : Nat} {Z Z' : Nat → Prop} {W W' : World} {fv : Value} {xs : List Int} (h : EachI M Z W fv xs) (hs : W.heap.size ≤ W'.heap.size) (hz : ∀ b, Z b → W'.heap[b]? = W.heap[b]? ∧ Z' b) : EachI M Z' W' fv xs := by
  obtain ⟨bs, bf, ps, h1, h2, h3⟩ := h
  exact ⟨bs, bf, ps, h1, ⟨h2.1.move hs hz, (hz _ h2.2.1).2, (hz _ h2.2.1).1.trans h2.2.2⟩, h3⟩
theorem eachI_gives {M B n₀ : Nat} {Z : Nat → Prop} {w : World} {fv : Value} {xs : List Int}
    (h : EachI M Z w fv xs) (hi : InvB B 22 w) (hZ : ∀ b, Z b → FreeOf B 22 w b) :
    ∃ gf lb St, fv = .func (.func gf) #[] lb ∧ (∀ args w, (callFunc gf args).run Tryz.prog w = .ok (.enter gf args) w) ∧ GivesF Tryz.prog gf lb M B n₀ 22 St xs ∧ ∀ o o', St ((w.alloc o).alloc o') := by
  have hz : ∀ o o' b, Z b → ((w.alloc o).alloc o').heap[b]? = w.heap[b]? ∧ FreeOf B 22 ((w.alloc o).alloc o') b := fun o o' b hb => by
    have hg := (((Below.refl w.heap.size w).alloc (Nat.le_refl _) o).alloc (by simp) o')
    have hg' : w.grownBy ((w.alloc o).alloc o') none := ⟨hg.os, hg.tape, hg.output, hg.size, fun k hk _ => hg.block k hk⟩
    exact free_turn hi hg' (NoCells.none _) b (hZ b hb)
  obtain ⟨bs, bf, ps, h1, h2, h3, h4⟩ := h
  exact ⟨_, _, _, h1, enters_of Tryz.func81 (by kernel_rfl) rfl, by rw [h3]; exact eachGivesF M B n₀ bs bf ps h4, fun o o' => by
    have hs : w.heap.size ≤ ((w.alloc o).alloc o').heap.size := by simp; omega
    exact ⟨h2.1.move hs (hz o o'), (hz o o' _ h2.2.1).2, (hz o o' _ h2.2.1).1.trans h2.2.2⟩⟩

set_option maxRecDepth 100000 in
set_option maxHeartbeats 4000000 in
theorem appendSeq12 (M n₀ : Nat) (fv : Value) (xs : List Int) (w : World) (Z : Nat → Prop) (hZ : ∀ b, Z b → ∃ o : Obj, w.heap[b]? = some o ∧ o.isCells = true) (hm : MapF Z M w) (hit : EachI M Z w fv xs) (hn : n₀ ≤ w.heap.size) (hnM : n₀ ≤ M) (hlen : xs.length ≤ 300000000) :
    Calls Tryz.prog 80 #[.slice none 0 0, fv] w fun e w' => ∃ x, e = .returned x ∧ Own .i64 3 w.heap.size w' x xs ∧ Below n₀ w w' := by
  obtain ⟨i0, hi0, hz0, hz1, hz2⟩ := info_parts Tryz.infoI64
  have bO := Boxed.new w 22 (.slice none 0 0)
  have hB0 : Below n₀ w (w.alloc (.cells #[.slice none 0 0] 22)) := (Below.refl _ w).alloc hn _
  have hiB : InvB w.heap.size 22 (w.alloc (.cells #[.slice none 0 0] 22)) := ⟨_, bO, fun r e => by cases e⟩
  have hfree : ∀ b, Z b → (w.alloc (.cells #[.slice none 0 0] 22)).heap[b]? = w.heap[b]? ∧ FreeOf w.heap.size 22 (w.alloc (.cells #[.slice none 0 0] 22)) b := fun b hb => by
    obtain ⟨o, ho, hc⟩ := hZ b hb
    have hlt := (Array.getElem?_eq_some_iff.1 ho).1
    have hs := Below.heap_alloc w (.cells #[.slice none 0 0] 22) b hlt
    refine ⟨hs, ⟨o, hs.trans ho, hc⟩, by omega, fun u hu => ?_⟩
    obtain rfl : u = .slice none 0 0 := by
      have := (show (w.alloc _).heap[w.heap.size]? = _ from hu).symm.trans bO
      simpa using this
    simp [Value.ownBlock]
  have hmem : MemF M w.heap.size n₀ 22 (w.alloc (.cells #[.slice none 0 0] 22)) := ⟨by simp; omega, hnM, hiB, hm.move (by simp) (Below.heap_alloc _ _ _ hm.lt) hfree⟩
  have hit1 := hit.move (by simp) hfree
  obtain ⟨gf, lb, St, hfv, heg, hgv, hst⟩ := eachI_gives (B := w.heap.size) (n₀ := n₀) hit1 hiB (fun _ h => h)
  subst hfv
  clear hit hit1 hfree hm hZ
  refine (callsIn_wide (n := 9)).1 ?_
  refine callsIn_of_wp_marks Tryz.func80 rfl trivial ?_ rfl
  simp only [Tryz.ntmps80, List.size_toArray, List.length_cons, List.length_nil, Nat.reduceAdd, Nat.reduceSub, Array.replicate_succ, Array.replicate_zero, List.push_toArray, List.append_toArray, List.nil_append, List.cons_append]
  gi_wp2
  obtain ⟨w0, hw0⟩ : ∃ w0, w.alloc (.cells #[.slice none 0 0] 22) = w0 := ⟨_, rfl⟩
  have hs0 : w0.heap.size = w.heap.size + 1 := by rw [← hw0]; simp
  rw [hw0] at bO hB0 hmem hst ⊢
  refine wpIn_rangeFunc_F rfl heg hgv hst hmem rfl (fun pre W => (∃ v, Boxed W w.heap.size 22 v ∧ W.ownsRow w.heap.size 3 1 v pre.length (pre.map (Value.int .i64)) ∧ True) ∧ Below n₀ w W)
    ((abidesM_cells (fun s X Y row hs hg hr => holdsRow_own w.heap.size w.heap.size 22 3 1 (fun pre : List Int => pre.length) (fun pre => pre.map (Value.int .i64)) (fun _ _ => True) s X Y row hs hg hr)).and (abidesM_below hn (by omega) hnM))
    ⟨⟨_, bO, World.ownsRow_nil _ _ _ _, trivial⟩, hB0⟩
    (fun x => { tmps := #[.slice none 0 0, .func (.func gf) #[] lb, .pointer (some ⟨w.heap.size, 0, none⟩), undef, .slice none 0 0, .int .i64 x, .func (.func gf) #[] lb, .int .i64 x, undef, undef, undef, undef, undef], defers := [] }) ?assign ?body ?done
  case assign =>
    intro l x W K hK
    gi_wp2
    exact hK
  case body =>
    rintro l pre x W ⟨⟨v, hv, hrow, -⟩, hB⟩ hM hlt
    have hc := hv.cell
    have hsz : w.heap.size ≤ W.heap.size := Nat.le_of_lt hv.lt
    gi_wp2_with (gi_at_builtin; refine wpListIn_appMoves _ rfl _ _ 22 rfl w.heap.size 3 i0 (.int .i64 0) 1 8 Tryz.underlying22 hi0 hz0 hz1 hz2 rfl (by decide) _ _ _ rfl (hrow.alloc _) ⟨W.heap.size, 0, none⟩ 1 1 [.int .i64 x] rfl rfl (cell_one_new _ _ _) (by simp [Value.oneCell']) (by unfold maxLen; omega) (by omega) (by simp; omega) ?_; intro v' w1 hown' hgrow _ hmv; obtain ⟨g', cap', rfl⟩ := ownsRow_succ hown'; obtain ⟨hv1, hv2, hr2, hk2, hb2⟩ := hv.appended (by decide) hrow hsz (Nat.le_refl _) hown' hgrow; have hc1 := hv1.cell; have hf1 := hv1.frozen)
    have hK1 : KeepRow n₀ w.heap.size 22 W (W.alloc (.cells #[.int .i64 x] 3)) := KeepRow.of_below (by (repeat (first | exact Below.refl _ _ | exact below_drewN _ | refine Below.drew ?_ | refine Below.alloc ?_ (by simp) _ | refine Below.setCell ?_ (by simp) _ | refine below_drewN' ?_ _))) (by omega)
    have hK2 := keepRow_appended (n₀ := n₀) (by decide) (hv.alloc (.cells #[.int .i64 x] 3)) hn hn (by simp; omega) (show Own .i64 3 w.heap.size (W.alloc (.cells #[.int .i64 x] 3)) v pre from hrow.alloc _) (show Own .i64 3 w.heap.size w1 _ (pre ++ [x]) from by unfold Own; rw [List.length_append, List.map_append]; exact hown') hgrow hmv
    exact ⟨⟨hK1.trans hK2.1, hk2⟩, ⟨_, hv2, by rw [List.length_append, List.map_append]; exact hr2, trivial⟩, hB.trans (hb2.mono hn)⟩
  case done =>
    rintro D W hD ⟨⟨v, hv, hrow, -⟩, hB⟩ hM hK
    have hc := hv.cell
    gi_wp2
    refine ⟨by simp, .inl ⟨_, _, rfl, run_takeDeferred hK, ?_⟩⟩
    exact ⟨_, results_tmp rfl _ _ _, v, rfl, ownsRow_putObj hrow _ hK rfl, hB.grown (grownBy_putObj' W D _) (by have := hv.lt; omega) (fun r e => by cases e; omega)⟩
theorem collect12 (M n₀ : Nat) (fv : Value) (xs : List Int) (w : World) (Z : Nat → Prop) (hZ : ∀ b, Z b → ∃ o : Obj, w.heap[b]? = some o ∧ o.isCells = true) (hm : MapF Z M w) (hit : EachI M Z w fv xs) (hn : n₀ ≤ w.heap.size) (hnM : n₀ ≤ M) (hlen : xs.length ≤ 300000000) :
    Calls Tryz.prog 49 #[fv] w fun e w' => ∃ x, e = .returned x ∧ Own .i64 3 w.heap.size w' x xs ∧ Below n₀ w w' := by
  have HA := hid (appendSeq12 M n₀ fv xs w Z hZ hm hit hn hnM hlen)
  clear hm hit hZ
  go_enter Tryz.func49, Tryz.ntmps49
  go_wp2_with (go_at_call 80; refine HA.out.mono ?_; rintro e w1 ⟨v1, rfl, ho1, hb1⟩; have HO1 := hid ho1; have HB1 := hid hb1; clear ho1 hb1)
  go_ret
  exact ⟨_, rfl, HO1.out, HB1.out⟩
set_option maxHeartbeats 1000000 in
theorem allFold : FAllOk := by
  intro v s w hs hi hl
  have hlen := foldAll_len s
  have HD := hid (fun x (hx : x ∈ s) => List.all_eq_true.1 hi x hx)
  have HS := hid hs
  obtain ⟨a, cap, hv⟩ := hs.form
  subst hv
  clear hs hi
  go_enter Tryz.func22, Tryz.ntmps22
  go_wp2_with (first
    | (go_at_call 50; refine (newFolder12 _).mono ?_; rintro e w1 ⟨M, rfl, hM, hm1, hb1⟩; have HM1 := hid hm1; have HB1 := hid hb1; have HS1 := hid (Sl.slZ (HS.out.below hb1)); clear hm1 hb1)
    | (go_at_call 51; refine (each12 M _ s w1 (fun b => ∃ o : Obj, w1.heap[b]? = some o ∧ o.isCells = true) (fun _ h => h) HS1.out).mono ?_; rintro e w2 ⟨rfl, hi2, hb2⟩; have HB2 := hid hb2; have HI2 := hid hi2; clear hb2 hi2)
    | (go_at_call 49; refine (collect12 M w.heap.size _ (foldAllS s) w2 _ zn_cells (mapF_same (fun _ h => h) (HM1.out.full _) HB2.out) ⟨_, _, s, rfl, HI2.out, rfl, HD.out⟩ (Nat.le_trans HB1.out.size HB2.out.size) hM (by omega)).mono ?_; rintro e w3 ⟨v3, rfl, ho3, hb3⟩; have HO3 := hid ho3; have HB3 := hid hb3; clear ho3 hb3))
  go_ret
  exact ⟨_, rfl, HO3.out.mono (Nat.le_trans HB1.out.size HB2.out.size), below_turned HB1.out hM (grown_some M HB2.out) HB3.out⟩
theorem oneFold : FOneOk := fun c w _ => (foldOneO c w).mono fun e w' h => by
  obtain ⟨x, h1, h2, h3⟩ := h
  exact ⟨x, h1, h2.sl, h3⟩
end Go.Proofs.YtidjjaginindoaaGreat
