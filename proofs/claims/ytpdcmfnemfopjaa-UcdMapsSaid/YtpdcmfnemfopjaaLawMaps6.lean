/- Walk of law06's UcdMaps: each entry of the tables of decompositions and of folding is told. -/
import Derived.Test.YtpdcmfnemfopjaaUcdWakes
import Derived.Test.YtpdcmfnemfopjaaIx
import Derived.Deep.RegionHeld3
import Derived.Test.YtpdcmfnemfopjaaAnyH
import Derived.Deep.CutRange
namespace Go.Proofs.Ytpdcmfnemfopjaa
open Go.RowKit

set_option maxRecDepth 100000 in
theorem maps_len : tabCanon.length ≤ 1000 ∧ tabCompat.length ≤ 1000 ∧ tabFolds.length ≤ 1000 ∧ 0 < tabCompat.length ∧ 0 < tabFolds.length := by decide +kernel
theorem getD_rg {l : List Rg} {i : Nat} (h : i < l.length) : l.getD i noRg ∈ l := by
  have e : l.getD i noRg = l[i] := by rw [List.getD_eq_getElem?_getD, List.getElem?_eq_getElem h]; rfl
  rw [e]
  exact List.getElem_mem h
theorem getD_mp {l : List Mp} {i : Nat} (h : i < l.length) : l.getD i noMp ∈ l := by
  have e : l.getD i noMp = l[i] := by rw [List.getD_eq_getElem?_getD, List.getElem?_eq_getElem h]; rfl
  rw [e]
  exact List.getElem_mem h
theorem canon_at {i : Nat} (h : i < tabCanon.length) : canonS (tabCanon.getD i noRg).f = if (tabCanon.getD i noRg).v == 0 then [(tabCanon.getD i noRg).t] else [(tabCanon.getD i noRg).t, (tabCanon.getD i noRg).v] :=
  eq_of_beq (List.all_eq_true.1 f_canons _ (getD_rg h))
theorem compat_at {i : Nat} (h : i < tabCompat.length) : mapS tabCompat (tabCompat.getD i noMp).f = (tabCompat.getD i noMp).t ∧ canonS (tabCompat.getD i noMp).f = [] := by
  have := List.all_eq_true.1 f_compats _ (getD_mp h)
  simp only [Bool.and_eq_true, beq_iff_eq] at this
  exact this
theorem folds_at {i : Nat} (h : i < tabFolds.length) : mapS tabFolds (tabFolds.getD i noMp).f = (tabFolds.getD i noMp).t ∧ ∀ x ∈ (tabFolds.getD i noMp).t, mapS tabFolds x = [] := by
  have := List.all_eq_true.1 f_folds _ (getD_mp h)
  simp only [Bool.and_eq_true, beq_iff_eq, List.all_eq_true] at this
  exact this
theorem u64_nat (m : Nat) (h1 : m ≤ 1000) : IntKind.u64.wrap (m : Int) = (m : Int) := by
  simp only [IntKind.wrap, IntKind.bits, IntKind.signed]
  simp
  omega
theorem ix_at (x : Int) (m : Nat) (h0 : 0 < m) (h1 : m ≤ 1000) : ∃ K : Nat, wrap64 ((IntKind.u64.wrap x).tmod (m : Int)) = (K : Int) ∧ K < m := by
  obtain ⟨x0, x1⟩ := ixr x (m : Int) (by omega) (by omega)
  exact ⟨(wrap64 ((IntKind.u64.wrap x).tmod (m : Int))).toNat, by omega, by omega⟩

theorem box_far6 {t : TypeId} {cs : List Value} {B B' : Nat} {w : World} (h : Box t cs B w) (hn : B ≠ B') (j : Nat) (v : Value) : Box t cs B (w.setCell ⟨B', j, none⟩ v) := by
  have e : (w.setCell ⟨B', j, none⟩ v).heap[B]? = w.heap[B]? := Below.heap_setCell _ _ _ _ (fun h => hn (by rw [h]))
  exact e.trans h
theorem sl_part {k : IntKind} {w : World} {t : TypeId} {cs : List Value} {B n cap : Nat} {xs : List Int} (h : Box t cs B w) (hn : n = xs.length) (hc : n ≤ cap) (hm : cap ≤ 1000) (hx : ∀ i, i < n → cs[i]? = some (.int k (xs.getD i 0))) : Sl k w (.slice (some ⟨B, 0, none⟩) n cap) xs := by
  subst hn
  exact ⟨_, cap, rfl, hc, by unfold maxLen; omega, .inr ⟨B, 0, rfl, fun _ => h.lt, fun i hi => by rw [Nat.zero_add, h.cell]; exact hx i hi⟩⟩

set_option maxHeartbeats 8000000 in
set_option maxRecDepth 8000 in
theorem walkMaps6 (at_ : Int) (w : World) :
    Calls Try.prog 6 #[.int .i64 at_] w fun e w' => e = .returned (.bool true) ∧ Below w.heap.size w w' := by
  obtain ⟨i0, hi0, hz0, hz1, hz2⟩ := info_parts Try.infoMp
  obtain ⟨L1, L2, L3, L4, L5⟩ := maps_len
  have L6 := canon_pos
  obtain ⟨n1, hn1⟩ : ∃ n, n = tabCanon.length := ⟨_, rfl⟩
  obtain ⟨n2, hn2⟩ : ∃ n, n = tabCompat.length := ⟨_, rfl⟩
  obtain ⟨n3, hn3⟩ : ∃ n, n = tabFolds.length := ⟨_, rfl⟩
  rw [← hn1] at L1 L6
  rw [← hn2] at L2 L4
  rw [← hn3] at L3 L5
  have HN1 := hid hn1
  have HN2 := hid hn2
  have HN3 := hid hn3
  clear hn1 hn2 hn3
  have e1 : ((n1 : Int) == 0) = false := beq_eq_false_iff_ne.2 (by omega)
  have e2 : ((n2 : Int) == 0) = false := beq_eq_false_iff_ne.2 (by omega)
  have e3 : ((n3 : Int) == 0) = false := beq_eq_false_iff_ne.2 (by omega)
  go_enter Try.func6, Try.ntmps6
  go_upto_region 4 with (first
    | (go_at_call 36; refine (apiCanon _).mono ?_; rintro e w1 ⟨v1, rfl, ho1, hb1⟩; have HO1 := hid ho1.sg; have HB1 := hid hb1; obtain ⟨a1, c1, hv1⟩ := ho1.form; rw [← HN1.out] at hv1; subst hv1; clear ho1 hb1)
    | (go_at_call 37; refine (apiCompat _).mono ?_; rintro e w2 ⟨v2, rfl, ho2, hb2⟩; have HO2 := hid ho2.sm; have HB2 := hid hb2; obtain ⟨a2, c2, hv2⟩ := ho2.form; rw [← HN2.out] at hv2; subst hv2; clear ho2 hb2)
    | (go_at_call 38; refine (apiFolds _).mono ?_; rintro e w3 ⟨v3, rfl, ho3, hb3⟩; have HO3 := hid ho3.sm; have HB3 := hid hb3; obtain ⟨a3, c3, hv3⟩ := ho3.form; rw [← HN3.out] at hv3; subst hv3; clear ho3 hb3))
  have HBW := hid (HB1.out.trans ((HB2.out.mono HB1.out.size).trans (HB3.out.mono (Nat.le_trans HB1.out.size HB2.out.size))))
  have HS1 := hid ((HO1.out.below HB2.out).below HB3.out)
  have HS2 := hid (HO2.out.below HB3.out)
  clear HO1 HO2 HB1 HB2 HB3
  obtain ⟨K1, hK1, k1⟩ := ix_at at_ n1 L6 L1
  obtain ⟨K2, hK2, k2⟩ := ix_at at_ n2 L4 L2
  obtain ⟨K3, hK3, k3⟩ := ix_at at_ n3 L5 L3
  have u1 := u64_nat n1 L1
  have u2 := u64_nat n2 L2
  have u3 := u64_nat n3 L3
  have z1 : ¬ (n1 : Int) = 0 := by omega
  have z2 : ¬ (n2 : Int) = 0 := by omega
  have z3 : ¬ (n3 : Int) = 0 := by omega
  obtain ⟨_, _, hv1, q1, -, g1⟩ := HS1.out
  obtain ⟨_, _, hv2, q2, -, g2⟩ := HS2.out
  obtain ⟨_, _, hv3, q3, -, g3⟩ := HO3.out
  injection hv1 with hv1 hl1 hv1'
  injection hv2 with hv2 hl2 hv2'
  injection hv3 with hv3 hl3 hv3'
  clear hl1 hl2 hl3
  subst hv1 hv1' hv2 hv2' hv3 hv3'
  rw [← HN1.out] at q1 g1
  rw [← HN2.out] at q2 g2
  rw [← HN3.out] at q3 g3
  rcases g1 with g1 | ⟨b1, o1, rfl, -, g1⟩
  · omega
  rcases g2 with g2 | ⟨b2, o2, rfl, -, g2⟩
  · omega
  rcases g3 with g3 | ⟨b3, o3, rfl, -, g3⟩
  · omega
  obtain ⟨d1, d2, d3⟩ := g1 K1 k1
  obtain ⟨d4, uy, d5, d6⟩ := g2 K2 k2
  obtain ⟨d7, uz, d8, d9⟩ := g3 K3 k3
  have hc1 := hid (canon_at (i := K1) (by rw [← HN1.out]; exact k1))
  have hc2 := hid (compat_at (i := K2) (by rw [← HN2.out]; exact k2))
  have hc3 := hid (folds_at (i := K3) (by rw [← HN3.out]; exact k3))
  clear g1 g2 g3 HS1 HS2 HO3
  generalize tabCanon.getD K1 noRg = r at d1 d2 d3 hc1
  generalize tabCompat.getD K2 noMp = y at d4 d5 d6 hc2
  generalize tabFolds.getD K3 noMp = z at d7 d8 d9 hc3
  obtain ⟨rf, rt, rv⟩ := r
  obtain ⟨yf, yt⟩ := y
  obtain ⟨zf, zt⟩ := z
  simp only at d1 d2 d3 d4 d5 d6 d7 d8 d9 hc1 hc2 hc3
  obtain ⟨ay, cy, huy⟩ := d6.form
  obtain ⟨az, cz, huz⟩ := d9.form
  obtain ⟨ny, hny⟩ : ∃ n, n = yt.length := ⟨_, rfl⟩
  obtain ⟨nz, hnz⟩ : ∃ n, n = zt.length := ⟨_, rfl⟩
  rw [← hny] at huy
  rw [← hnz] at huz
  subst huy huz
  have HY := hid d6
  have HZ := hid d9
  have HNZ := hid hnz
  clear hny hnz d6 d9
  obtain ⟨p, hp⟩ : ∃ p, p = (rv == 0) := ⟨_, rfl⟩
  rw [← hp] at hc1
  replace hp := hp.symm
  have HA1 := hid (show Below w3.heap.size w3 ((w3.alloc (.cells #[.int .i64 rf, .int .i64 rt, .int .i64 rv] 43)).alloc (.cells #[.int .i64 rt, .int .i64 rv] 3)) by (repeat (first | exact Below.refl _ _ | exact below_drewN _ | refine Below.drew ?_ | refine Below.alloc ?_ (by simp) _ | refine Below.setCell ?_ (by simp) _ | refine below_drewN' ?_ _)))
  cases p with
  | true =>
    have hw := hid (show canonS rf = [rt] from hc1.out)
    have HX := hid (((Box.made w3 43 [.int .i64 rf, .int .i64 rt, .int .i64 rv]).alloc (.cells #[.int .i64 rt, .int .i64 rv] 3)))
    have HV := hid (sl_part (k := .i64) (n := 1) (cap := 2) (xs := [rt]) (box_last w3 (.cells #[.int .i64 rf, .int .i64 rt, .int .i64 rv] 43) 3 [.int .i64 rt, .int .i64 rv]) rfl (by decide) (by decide) (fun i hi => by
      obtain rfl : i = 0 := by omega
      rfl))
    go_upto_region 8 with (fail)
    generalize (w3.alloc (.cells #[.int .i64 rf, .int .i64 rt, .int .i64 rv] 43)).alloc (.cells #[.int .i64 rt, .int .i64 rv] 3) = W at HA1 HX HV ⊢
    obtain ⟨X, hX⟩ : ∃ X, X = w3.heap.size := ⟨_, rfl⟩
    rw [← hX] at HX HV ⊢
    have HXE := hid hX
    clear hX
    have s4 := (HA1.out.cell (World.block_lt_of_cell? w3 _ d4)).trans d4
    have s5 := (HA1.out.cell (World.block_lt_of_cell? w3 _ d5)).trans d5
    have s7 := (HA1.out.cell (World.block_lt_of_cell? w3 _ d7)).trans d7
    have s8 := (HA1.out.cell (World.block_lt_of_cell? w3 _ d8)).trans d8
    have HYW := hid (HY.out.below HA1.out)
    have HZW := hid (HZ.out.below HA1.out)
    have HBX := hid (HBW.out.trans (HA1.out.mono HBW.out.size))
    clear d1 d2 d3 d4 d5 d7 d8 hc1
    have l2 : (K2 : Int) < (n2 : Int) := by omega
    have l3 : (K3 : Int) < (n3 : Int) := by omega
    have m2 : (0 : Int) ≤ (K2 : Int) := by omega
    have m3 : (0 : Int) ≤ (K3 : Int) := by omega
    go_cut [8, 9] from 47 to 66 (fun pv qv wx => ∃ B8 B9 : Nat, pv = .pointer (some ⟨B8, 0, none⟩) ∧ qv = .pointer (some ⟨B9, 0, none⟩) ∧ Hid (Box 45 [.int .i64 yf, .slice ay ny cy] B8 wx) ∧ Hid (Box 45 [.int .i64 zf, .slice az nz cz] B9 wx) ∧ Hid (Below W.heap.size W wx))
    case first =>
      have HSS := hid (fun w' (h : Below W.heap.size W w') => (show w'.cell? ⟨b2, o2 + K2 * 2, none⟩ = some (.int .i64 yf) ∧ w'.cell? ⟨b2, o2 + K2 * 2 + 1, none⟩ = some (.slice ay ny cy) ∧ w'.cell? ⟨b3, o3 + K3 * 2, none⟩ = some (.int .i64 zf) ∧ w'.cell? ⟨b3, o3 + K3 * 2 + 1, none⟩ = some (.slice az nz cz) from ⟨(h.cell (World.block_lt_of_cell? W _ s4)).trans s4, (h.cell (World.block_lt_of_cell? W _ s5)).trans s5, (h.cell (World.block_lt_of_cell? W _ s7)).trans s7, (h.cell (World.block_lt_of_cell? W _ s8)).trans s8⟩))
      refine wp_region_held (S := (fun w' => w'.cell? ⟨b2, o2 + K2 * 2, none⟩ = some (.int .i64 yf) ∧ w'.cell? ⟨b2, o2 + K2 * 2 + 1, none⟩ = some (.slice ay ny cy) ∧ w'.cell? ⟨b3, o3 + K3 * 2, none⟩ = some (.int .i64 zf) ∧ w'.cell? ⟨b3, o3 + K3 * 2 + 1, none⟩ = some (.slice az nz cz))) (by kernel_rfl) ?_
      have HSD := hid (HSS.out _ (Below.refl W.heap.size W).drew)
      have HBD := hid (Below.refl W.heap.size W).drew
      change wpAnyH _ _ _ _ _ _ _ _ W.drew
      generalize W.drew = V at HSD HBD ⊢
      refine wpAnyH_take (i := 0) (v := .slice (some ⟨b2, o2, none⟩) n2 c2) rfl (by kernel_rfl) (by kernel_rfl) (by kernel_rfl) (fun _ _ _ h => h) (.inl ⟨by rfl, fun _ hS => exec_move rfl rfl⟩) HSD.out ?_
      refine wpAnyH_take (i := 1) (v := .int .i64 at_) rfl (by kernel_rfl) (by kernel_rfl) (by kernel_rfl) (fun _ _ _ h => h) (.inl ⟨by rfl, fun _ hS => exec_move rfl rfl⟩) HSD.out ?_
      refine wpAnyH_take (i := 2) (v := .int .u64 (IntKind.u64.wrap at_)) rfl (by kernel_rfl) (by kernel_rfl) (by kernel_rfl) (fun _ _ _ h => h) (.inl ⟨by rfl, fun _ hS => by go_simp⟩) HSD.out ?_
      refine wpAnyH_take (i := 3) (v := .slice (some ⟨b2, o2, none⟩) n2 c2) rfl (by kernel_rfl) (by kernel_rfl) (by kernel_rfl) (fun _ _ _ h => h) (.inl ⟨by rfl, fun _ hS => exec_move rfl rfl⟩) HSD.out ?_
      refine wpAnyH_take (i := 4) (v := .int .i64 (n2 : Int)) rfl (by kernel_rfl) (by kernel_rfl) (by kernel_rfl) (fun _ _ _ h => h) (.inl ⟨by rfl, fun _ hS => by go_simp⟩) HSD.out ?_
      refine wpAnyH_take (i := 5) (v := .int .u64 (n2 : Int)) rfl (by kernel_rfl) (by kernel_rfl) (by kernel_rfl) (fun _ _ _ h => h) (.inl ⟨by rfl, fun _ hS => by go_simp⟩) HSD.out ?_
      refine wpAnyH_take (i := 6) (v := .int .u64 ((IntKind.u64.wrap at_).tmod (n2 : Int))) rfl (by kernel_rfl) (by kernel_rfl) (by kernel_rfl) (fun _ _ _ h => h) (.inl ⟨by rfl, fun _ hS => by go_simp; omega⟩) HSD.out ?_
      refine wpAnyH_take (i := 7) (v := .int .i64 (K2 : Int)) rfl (by kernel_rfl) (by kernel_rfl) (by kernel_rfl) (fun _ _ _ h => h) (.inl ⟨by rfl, fun _ hS => by go_simp; have h := hK2; unfold wrap64 at h; rw [IntKind.wrap_i64]; omega⟩) HSD.out ?_
      refine wpAnyH_take (i := 8) (v := .pointer (some ⟨b2, o2 + K2 * 2, none⟩)) rfl (by kernel_rfl) (by kernel_rfl) (by kernel_rfl) (fun _ _ _ h => h) (.inl ⟨by rfl, fun _ hS => by go_simp⟩) HSD.out ?_
      refine wpAnyH_take (i := 9) (v := .agg #[.int .i64 yf, .slice ay ny cy]) rfl (by kernel_rfl) (by kernel_rfl) (by kernel_rfl) (fun _ _ _ h => h) (.inl ⟨by rfl, fun _ hS => by obtain ⟨hS1, hS2, hS3, hS4⟩ := hS; go_simp⟩) HSD.out ?_
      simp only [Act.put, List.getElem_toArray, List.getElem_cons_zero, List.getElem_cons_succ, List.setIfInBounds_toArray, List.set_cons_succ, List.set_cons_zero]
      refine wpAnyH_take (i := 10) (v := .slice (some ⟨b3, o3, none⟩) n3 c3) rfl (by kernel_rfl) (by kernel_rfl) (by kernel_rfl) (fun _ _ _ h => h) (.inl ⟨by rfl, fun _ hS => exec_move rfl rfl⟩) HSD.out ?_
      refine wpAnyH_take (i := 11) (v := .int .i64 at_) rfl (by kernel_rfl) (by kernel_rfl) (by kernel_rfl) (fun _ _ _ h => h) (.inl ⟨by rfl, fun _ hS => exec_move rfl rfl⟩) HSD.out ?_
      refine wpAnyH_take (i := 12) (v := .int .u64 (IntKind.u64.wrap at_)) rfl (by kernel_rfl) (by kernel_rfl) (by kernel_rfl) (fun _ _ _ h => h) (.inl ⟨by rfl, fun _ hS => by go_simp⟩) HSD.out ?_
      refine wpAnyH_take (i := 13) (v := .slice (some ⟨b3, o3, none⟩) n3 c3) rfl (by kernel_rfl) (by kernel_rfl) (by kernel_rfl) (fun _ _ _ h => h) (.inl ⟨by rfl, fun _ hS => exec_move rfl rfl⟩) HSD.out ?_
      refine wpAnyH_take (i := 14) (v := .int .i64 (n3 : Int)) rfl (by kernel_rfl) (by kernel_rfl) (by kernel_rfl) (fun _ _ _ h => h) (.inl ⟨by rfl, fun _ hS => by go_simp⟩) HSD.out ?_
      refine wpAnyH_take (i := 15) (v := .int .u64 (n3 : Int)) rfl (by kernel_rfl) (by kernel_rfl) (by kernel_rfl) (fun _ _ _ h => h) (.inl ⟨by rfl, fun _ hS => by go_simp⟩) HSD.out ?_
      refine wpAnyH_take (i := 16) (v := .int .u64 ((IntKind.u64.wrap at_).tmod (n3 : Int))) rfl (by kernel_rfl) (by kernel_rfl) (by kernel_rfl) (fun _ _ _ h => h) (.inl ⟨by rfl, fun _ hS => by go_simp; omega⟩) HSD.out ?_
      refine wpAnyH_take (i := 17) (v := .int .i64 (K3 : Int)) rfl (by kernel_rfl) (by kernel_rfl) (by kernel_rfl) (fun _ _ _ h => h) (.inl ⟨by rfl, fun _ hS => by go_simp; have h := hK3; unfold wrap64 at h; rw [IntKind.wrap_i64]; omega⟩) HSD.out ?_
      refine wpAnyH_take (i := 18) (v := .pointer (some ⟨b3, o3 + K3 * 2, none⟩)) rfl (by kernel_rfl) (by kernel_rfl) (by kernel_rfl) (fun _ _ _ h => h) (.inl ⟨by rfl, fun _ hS => by go_simp⟩) HSD.out ?_
      refine wpAnyH_take (i := 19) (v := .agg #[.int .i64 zf, .slice az nz cz]) rfl (by kernel_rfl) (by kernel_rfl) (by kernel_rfl) (fun _ _ _ h => h) (.inl ⟨by rfl, fun _ hS => by obtain ⟨hS1, hS2, hS3, hS4⟩ := hS; go_simp⟩) HSD.out ?_
      simp only [Act.put, List.getElem_toArray, List.getElem_cons_zero, List.getElem_cons_succ, List.setIfInBounds_toArray, List.set_cons_succ, List.set_cons_zero]
      have c1 := (Below.alloc HBD.out HBD.out.size (.cells #[.int .i64 0, .slice none 0 0] 45))
      have hz := HBD.out.size
      have hV1 : (V.alloc (.cells #[.int .i64 0, .slice none 0 0] 45)).heap.size = V.heap.size + 1 := by simp
      have c2 := (Below.alloc c1 c1.size (.cells #[.int .i64 0, .slice none 0 0] 45))
      have x8 := Box.made V 45 [.int .i64 0, .slice none 0 0]
      have x9 := Box.made (V.alloc (.cells #[.int .i64 0, .slice none 0 0] 45)) 45 [.int .i64 0, .slice none 0 0]
      have HV1 := hid hV1
      refine anyH_two (i := 20) (k := 21) (by kernel_rfl) rfl rfl (exec_allocM rfl) (HSS.out _ c1) rfl rfl (exec_allocM rfl) (HSS.out _ c1) ?_ ?_
      · refine anyH_one (i := 21) (by kernel_rfl) rfl rfl (exec_allocM rfl) (HSS.out _ c2) ?_
        simp only [Act.put, List.getElem_toArray, List.getElem_cons_zero, List.getElem_cons_succ, List.setIfInBounds_toArray, List.set_cons_succ, List.set_cons_zero]
        generalize (V.alloc (.cells #[.int .i64 0, .slice none 0 0] 45)).heap.size = G at x9 hV1 ⊢
        generalize hVV : V.heap.size = VV at x8 hV1 hz ⊢
        have y8 := (x8.alloc (.cells #[.int .i64 0, .slice none 0 0] 45)).pair (.int .i64 yf) (.slice ay ny cy)
        have c3 := below_pair (B := VV) (a := .int .i64 yf) (b := .slice ay ny cy) c2 hz
        have y9 := box_far6 (box_far6 x9 (show G ≠ VV by omega) 0 (.int .i64 yf)) (show G ≠ VV by omega) 1 (.slice ay ny cy)
        have y92 := y9.pair (.int .i64 zf) (.slice az nz cz)
        have y82 := box_far6 (box_far6 y8 (show VV ≠ G by omega) 0 (.int .i64 zf)) (show VV ≠ G by omega) 1 (.slice az nz cz)
        have c4 := below_pair (B := G) (a := .int .i64 zf) (b := .slice az nz cz) c3 (by omega)
        refine anyH_skip (i := 22) (by kernel_rfl) rfl rfl rfl (exec_storeM rfl rfl rfl (x8.alloc _)) (HSS.out _ c3) ?_
        refine anyH_skip (i := 23) (by kernel_rfl) rfl rfl rfl (exec_storeM rfl rfl rfl y9) (HSS.out _ c4) ?_
        refine wpAnyH_done (by kernel_rfl) ?_ _
        go_wp2_with (fail)
        go_meet
        case rel => exact ⟨_, _, rfl, rfl, y82, y92, c4⟩
      · refine anyH_one (i := 20) (by kernel_rfl) rfl rfl (exec_allocM rfl) (HSS.out _ c2) ?_
        simp only [Act.put, List.getElem_toArray, List.getElem_cons_zero, List.getElem_cons_succ, List.setIfInBounds_toArray, List.set_cons_succ, List.set_cons_zero]
        generalize (V.alloc (.cells #[.int .i64 0, .slice none 0 0] 45)).heap.size = G at x9 hV1 ⊢
        generalize hVV : V.heap.size = VV at x8 hV1 hz ⊢
        have y8 := x9.pair (.int .i64 yf) (.slice ay ny cy)
        have c3 := below_pair (B := G) (a := .int .i64 yf) (b := .slice ay ny cy) c2 (by omega)
        have y9 := box_far6 (box_far6 (x8.alloc (.cells #[.int .i64 0, .slice none 0 0] 45)) (show VV ≠ G by omega) 0 (.int .i64 yf)) (show VV ≠ G by omega) 1 (.slice ay ny cy)
        have y92 := y9.pair (.int .i64 zf) (.slice az nz cz)
        have y82 := box_far6 (box_far6 y8 (show G ≠ VV by omega) 0 (.int .i64 zf)) (show G ≠ VV by omega) 1 (.slice az nz cz)
        have c4 := below_pair (B := VV) (a := .int .i64 zf) (b := .slice az nz cz) c3 hz
        refine anyH_skip (i := 22) (by kernel_rfl) rfl rfl rfl (exec_storeM rfl rfl rfl x9) (HSS.out _ c3) ?_
        refine anyH_skip (i := 23) (by kernel_rfl) rfl rfl rfl (exec_storeM rfl rfl rfl y9) (HSS.out _ c4) ?_
        refine wpAnyH_done (by kernel_rfl) ?_ _
        go_wp2_with (fail)
        go_meet
        case rel => exact ⟨_, _, rfl, rfl, y82, y92, c4⟩
    case rest =>
      obtain ⟨B8, B9, hp8, hp9, hb8, hb9, hbw⟩ := hcut
      subst hp8 hp9
      have HXC := hid (HX.out.below hbw.out HX.out.lt)
      have HVC := hid (HV.out.below hbw.out)
      have HYC := hid (HYW.out.below hbw.out)
      have HZC := hid (HZW.out.below hbw.out)
      have HBC := hid (HBX.out.trans (hbw.out.mono HBX.out.size))
      clear HX HV HYW HZW HBX HY HZ s4 s5 s7 s8 hbw
      have t0 := HXC.out.cell 0
      have t1 := hb8.out.cell 0
      have t2 := hb8.out.cell 1
      have t3 := hb9.out.cell 0
      have t4 := hb9.out.cell 1
      simp only [List.getElem?_cons_zero, List.getElem?_cons_succ] at t0 t1 t2 t3 t4
      have HSS := hid (fun w' (h : Below wc.heap.size wc w') => (show w'.cell? ⟨X, 0, none⟩ = some (.int .i64 rf) ∧ w'.cell? ⟨B8, 0, none⟩ = some (.int .i64 yf) ∧ w'.cell? ⟨B8, 1, none⟩ = some (.slice ay ny cy) ∧ w'.cell? ⟨B9, 0, none⟩ = some (.int .i64 zf) ∧ w'.cell? ⟨B9, 1, none⟩ = some (.slice az nz cz) from ⟨(h.cell (World.block_lt_of_cell? wc _ t0)).trans t0, (h.cell (World.block_lt_of_cell? wc _ t1)).trans t1, (h.cell (World.block_lt_of_cell? wc _ t2)).trans t2, (h.cell (World.block_lt_of_cell? wc _ t3)).trans t3, (h.cell (World.block_lt_of_cell? wc _ t4)).trans t4⟩))
      have HC := hid (fun w => ucdCanon rf w)
      rw [hw.out] at HC
      have HM := hid (fun w => ucdCompat yf w)
      rw [hc2.out.1] at HM
      have HF := hid (fun w => ucdFold zf w)
      rw [hc3.out.1] at HF
      have HB0 := hid (Below.refl wc.heap.size wc).drew
      clear t0 t1 t2 t3 t4 hK1 hK2 hK3 k1 k2 k3 u1 u2 u3 z1 z2 z3 l2 l3 m2 m3 e1 e2 e3 q1 q2 q3 L1 L2 L3 L4 L5 L6
      go_wp2_with (fail)
      go_region_held3 (fun w' => w'.cell? ⟨X, 0, none⟩ = some (.int .i64 rf) ∧ w'.cell? ⟨B8, 0, none⟩ = some (.int .i64 yf) ∧ w'.cell? ⟨B8, 1, none⟩ = some (.slice ay ny cy) ∧ w'.cell? ⟨B9, 0, none⟩ = some (.int .i64 zf) ∧ w'.cell? ⟨B9, 1, none⟩ = some (.slice az nz cz))
        (first | exact HSS.out _ HB6.out | exact HSS.out _ HB5.out | exact HSS.out _ HB4.out | exact HSS.out _ HB3.out | exact HSS.out _ HB2.out | exact HSS.out _ HB1.out | exact HSS.out _ HB0.out)
        (first
          | (have _u := HB5; clear _u; go_simp; go_at_call 23; refine (keepInts v5 (.slice az nz cz) zt zt _ HO5.out (HZC.out.below HB5.out)).mono ?_; rw [eqL_self]; rintro e w6 ⟨rfl, n6, hw6⟩; have HB6 := hid (show Below wc.heap.size wc w6 from by rw [hw6]; exact below_drewN' HB5.out n6); clear hw6)
          | (have _u := HB4; clear _u; go_simp; go_at_call 28; refine (HF.out _).mono ?_; rintro e w5 ⟨v5, rfl, ho5, hb5⟩; have HO5 := hid ho5; have HB5 := hid (HB4.out.trans (hb5.mono HB4.out.size)); clear ho5 hb5)
          | (have _u := HB3; clear _u; go_simp; go_at_call 23; refine (keepInts v3 (.slice ay ny cy) yt yt _ HO3.out (HYC.out.below HB3.out)).mono ?_; rw [eqL_self]; rintro e w4 ⟨rfl, n4, hw4⟩; have HB4 := hid (show Below wc.heap.size wc w4 from by rw [hw4]; exact below_drewN' HB3.out n4); clear hw4)
          | (have _u := HB2; clear _u; go_simp; go_at_call 26; refine (HM.out _).mono ?_; rintro e w3 ⟨v3, rfl, ho3, hb3⟩; have HO3 := hid ho3; have HB3 := hid (HB2.out.trans (hb3.mono HB2.out.size)); clear ho3 hb3)
          | (have _u := HB1; clear _u; go_simp; go_at_call 23; refine (keepInts v1 _ [rt] [rt] _ HO1.out (HVC.out.below HB1.out)).mono ?_; rw [eqL_self]; rintro e w2 ⟨rfl, n2, hw2⟩; have HB2 := hid (show Below wc.heap.size wc w2 from by rw [hw2]; exact below_drewN' HB1.out n2); clear hw2)
          | (go_simp; go_at_call 24; refine (HC.out _).mono ?_; rintro e w1 ⟨v1, rfl, ho1, hb1⟩; have HO1 := hid ho1; have HB1 := hid (HB0.out.trans (hb1.mono HB0.out.size)); clear ho1 hb1))
      have hnz9 : nz ≤ 9223372036854775807 := by
        have h1 := HZC.out
        obtain ⟨_, _, _, h2, h3, _⟩ := h1
        have := HNZ.out
        unfold maxLen at h3
        omega
      go_wp2_with (fail)
      go_loopw [10] (fun iv wr => ∃ i : Nat, i ≤ nz ∧ iv = .int .i64 i ∧ Hid (Below wc.heap.size wc wr)) (fun iv _ => nz - (intOf iv).toNat)
      case atStart => exact ⟨0, by omega, rfl, HB6.out⟩
      case round =>
        obtain ⟨i, hi, rfl, hbel⟩ := hrel
        by_cases hlt : i < nz
        · obtain ⟨az', cz', hq, hq1, hqm, hq2⟩ := HZC.out
          injection hq with hq3 hq4 hq5
          subst hq3 hq5
          rcases hq2 with hq2 | ⟨bz, oz, rfl, hq6, hq7⟩
          · omega
          have hil : i < zt.length := by omega
          have ex := (hbel.out.cell (p := ⟨bz, oz + i, none⟩) (hq6 (by omega))).trans (hq7 i hil)
          have hx : mapS tabFolds (zt.getD i 0) = [] := hc3.out.2 _ (by
            rw [List.getD_eq_getElem?_getD, List.getElem?_eq_getElem hil]
            exact List.getElem_mem hil)
          clear hq6 hq7 hq1 hq4 hil hqm
          generalize zt.getD i 0 = x at ex hx
          have HFX := hid (fun w => ucdFold x w)
          rw [hx] at HFX
          have hbx := HFX
          clear hx hbx
          have r9 := (hb9.out.below hbel.out hb9.out.lt).cell 1
          simp only [List.getElem?_cons_zero, List.getElem?_cons_succ] at r9
          go_wp2_with (go_at_call 28; refine (HFX.out _).mono ?_; rintro e wf ⟨vf, rfl, hof, hbf⟩; obtain ⟨af, cf, rfl⟩ := hof.form; have HBF := hid (hbel.out.trans (hbf.mono hbel.out.size)); clear hof hbf)
          go_roundw
          case rel => exact ⟨i + 1, by omega, by go_num, HBF.out⟩
          case measure => simp [intOf]; omega
        · obtain rfl : i = nz := by omega
          have r9 := (hb9.out.below hbel.out hb9.out.lt).cell 1
          have r8 := (hb8.out.below hbel.out hb8.out.lt).cell 0
          simp only [List.getElem?_cons_zero, List.getElem?_cons_succ] at r8 r9
          have HCY := hid (fun w => ucdCanon yf w)
          rw [hc2.out.2] at HCY
          go_wp2_with (first
            | (go_at_call 24; refine (HCY.out _).mono ?_; rintro e wf ⟨vf, rfl, hof, hbf⟩; obtain ⟨af, cf, rfl⟩ := hof.form; have HBF := hid (hbel.out.trans (hbf.mono hbel.out.size)); clear hof hbf)
            | (go_at_call 30; refine (lawWakes6 _).mono ?_; rintro e wk ⟨rfl, hbk⟩; have HBK := hid (HBF.out.trans (hbk.mono HBF.out.size)); clear hbk))
          go_ret
          exact ⟨rfl, HBC.out.trans (HBK.out.mono HBC.out.size)⟩
  | false =>
    have hw := hid (show canonS rf = [rt, rv] from hc1.out)
    have HX := hid (((Box.made w3 43 [.int .i64 rf, .int .i64 rt, .int .i64 rv]).alloc (.cells #[.int .i64 rt, .int .i64 rv] 3)))
    have HV := hid (sl_part (k := .i64) (n := 2) (cap := 2) (xs := [rt, rv]) (box_last w3 (.cells #[.int .i64 rf, .int .i64 rt, .int .i64 rv] 43) 3 [.int .i64 rt, .int .i64 rv]) rfl (by decide) (by decide) (fun i hi => by
      match i, hi with
      | 0, _ => rfl
      | 1, _ => rfl))
    go_upto_region 8 with (fail)
    generalize (w3.alloc (.cells #[.int .i64 rf, .int .i64 rt, .int .i64 rv] 43)).alloc (.cells #[.int .i64 rt, .int .i64 rv] 3) = W at HA1 HX HV ⊢
    obtain ⟨X, hX⟩ : ∃ X, X = w3.heap.size := ⟨_, rfl⟩
    rw [← hX] at HX HV ⊢
    have HXE := hid hX
    clear hX
    have s4 := (HA1.out.cell (World.block_lt_of_cell? w3 _ d4)).trans d4
    have s5 := (HA1.out.cell (World.block_lt_of_cell? w3 _ d5)).trans d5
    have s7 := (HA1.out.cell (World.block_lt_of_cell? w3 _ d7)).trans d7
    have s8 := (HA1.out.cell (World.block_lt_of_cell? w3 _ d8)).trans d8
    have HYW := hid (HY.out.below HA1.out)
    have HZW := hid (HZ.out.below HA1.out)
    have HBX := hid (HBW.out.trans (HA1.out.mono HBW.out.size))
    clear d1 d2 d3 d4 d5 d7 d8 hc1
    have l2 : (K2 : Int) < (n2 : Int) := by omega
    have l3 : (K3 : Int) < (n3 : Int) := by omega
    have m2 : (0 : Int) ≤ (K2 : Int) := by omega
    have m3 : (0 : Int) ≤ (K3 : Int) := by omega
    go_cut [8, 9] from 47 to 66 (fun pv qv wx => ∃ B8 B9 : Nat, pv = .pointer (some ⟨B8, 0, none⟩) ∧ qv = .pointer (some ⟨B9, 0, none⟩) ∧ Hid (Box 45 [.int .i64 yf, .slice ay ny cy] B8 wx) ∧ Hid (Box 45 [.int .i64 zf, .slice az nz cz] B9 wx) ∧ Hid (Below W.heap.size W wx))
    case first =>
      have HSS := hid (fun w' (h : Below W.heap.size W w') => (show w'.cell? ⟨b2, o2 + K2 * 2, none⟩ = some (.int .i64 yf) ∧ w'.cell? ⟨b2, o2 + K2 * 2 + 1, none⟩ = some (.slice ay ny cy) ∧ w'.cell? ⟨b3, o3 + K3 * 2, none⟩ = some (.int .i64 zf) ∧ w'.cell? ⟨b3, o3 + K3 * 2 + 1, none⟩ = some (.slice az nz cz) from ⟨(h.cell (World.block_lt_of_cell? W _ s4)).trans s4, (h.cell (World.block_lt_of_cell? W _ s5)).trans s5, (h.cell (World.block_lt_of_cell? W _ s7)).trans s7, (h.cell (World.block_lt_of_cell? W _ s8)).trans s8⟩))
      refine wp_region_held (S := (fun w' => w'.cell? ⟨b2, o2 + K2 * 2, none⟩ = some (.int .i64 yf) ∧ w'.cell? ⟨b2, o2 + K2 * 2 + 1, none⟩ = some (.slice ay ny cy) ∧ w'.cell? ⟨b3, o3 + K3 * 2, none⟩ = some (.int .i64 zf) ∧ w'.cell? ⟨b3, o3 + K3 * 2 + 1, none⟩ = some (.slice az nz cz))) (by kernel_rfl) ?_
      have HSD := hid (HSS.out _ (Below.refl W.heap.size W).drew)
      have HBD := hid (Below.refl W.heap.size W).drew
      change wpAnyH _ _ _ _ _ _ _ _ W.drew
      generalize W.drew = V at HSD HBD ⊢
      refine wpAnyH_take (i := 0) (v := .slice (some ⟨b2, o2, none⟩) n2 c2) rfl (by kernel_rfl) (by kernel_rfl) (by kernel_rfl) (fun _ _ _ h => h) (.inl ⟨by rfl, fun _ hS => exec_move rfl rfl⟩) HSD.out ?_
      refine wpAnyH_take (i := 1) (v := .int .i64 at_) rfl (by kernel_rfl) (by kernel_rfl) (by kernel_rfl) (fun _ _ _ h => h) (.inl ⟨by rfl, fun _ hS => exec_move rfl rfl⟩) HSD.out ?_
      refine wpAnyH_take (i := 2) (v := .int .u64 (IntKind.u64.wrap at_)) rfl (by kernel_rfl) (by kernel_rfl) (by kernel_rfl) (fun _ _ _ h => h) (.inl ⟨by rfl, fun _ hS => by go_simp⟩) HSD.out ?_
      refine wpAnyH_take (i := 3) (v := .slice (some ⟨b2, o2, none⟩) n2 c2) rfl (by kernel_rfl) (by kernel_rfl) (by kernel_rfl) (fun _ _ _ h => h) (.inl ⟨by rfl, fun _ hS => exec_move rfl rfl⟩) HSD.out ?_
      refine wpAnyH_take (i := 4) (v := .int .i64 (n2 : Int)) rfl (by kernel_rfl) (by kernel_rfl) (by kernel_rfl) (fun _ _ _ h => h) (.inl ⟨by rfl, fun _ hS => by go_simp⟩) HSD.out ?_
      refine wpAnyH_take (i := 5) (v := .int .u64 (n2 : Int)) rfl (by kernel_rfl) (by kernel_rfl) (by kernel_rfl) (fun _ _ _ h => h) (.inl ⟨by rfl, fun _ hS => by go_simp⟩) HSD.out ?_
      refine wpAnyH_take (i := 6) (v := .int .u64 ((IntKind.u64.wrap at_).tmod (n2 : Int))) rfl (by kernel_rfl) (by kernel_rfl) (by kernel_rfl) (fun _ _ _ h => h) (.inl ⟨by rfl, fun _ hS => by go_simp; omega⟩) HSD.out ?_
      refine wpAnyH_take (i := 7) (v := .int .i64 (K2 : Int)) rfl (by kernel_rfl) (by kernel_rfl) (by kernel_rfl) (fun _ _ _ h => h) (.inl ⟨by rfl, fun _ hS => by go_simp; have h := hK2; unfold wrap64 at h; rw [IntKind.wrap_i64]; omega⟩) HSD.out ?_
      refine wpAnyH_take (i := 8) (v := .pointer (some ⟨b2, o2 + K2 * 2, none⟩)) rfl (by kernel_rfl) (by kernel_rfl) (by kernel_rfl) (fun _ _ _ h => h) (.inl ⟨by rfl, fun _ hS => by go_simp⟩) HSD.out ?_
      refine wpAnyH_take (i := 9) (v := .agg #[.int .i64 yf, .slice ay ny cy]) rfl (by kernel_rfl) (by kernel_rfl) (by kernel_rfl) (fun _ _ _ h => h) (.inl ⟨by rfl, fun _ hS => by obtain ⟨hS1, hS2, hS3, hS4⟩ := hS; go_simp⟩) HSD.out ?_
      simp only [Act.put, List.getElem_toArray, List.getElem_cons_zero, List.getElem_cons_succ, List.setIfInBounds_toArray, List.set_cons_succ, List.set_cons_zero]
      refine wpAnyH_take (i := 10) (v := .slice (some ⟨b3, o3, none⟩) n3 c3) rfl (by kernel_rfl) (by kernel_rfl) (by kernel_rfl) (fun _ _ _ h => h) (.inl ⟨by rfl, fun _ hS => exec_move rfl rfl⟩) HSD.out ?_
      refine wpAnyH_take (i := 11) (v := .int .i64 at_) rfl (by kernel_rfl) (by kernel_rfl) (by kernel_rfl) (fun _ _ _ h => h) (.inl ⟨by rfl, fun _ hS => exec_move rfl rfl⟩) HSD.out ?_
      refine wpAnyH_take (i := 12) (v := .int .u64 (IntKind.u64.wrap at_)) rfl (by kernel_rfl) (by kernel_rfl) (by kernel_rfl) (fun _ _ _ h => h) (.inl ⟨by rfl, fun _ hS => by go_simp⟩) HSD.out ?_
      refine wpAnyH_take (i := 13) (v := .slice (some ⟨b3, o3, none⟩) n3 c3) rfl (by kernel_rfl) (by kernel_rfl) (by kernel_rfl) (fun _ _ _ h => h) (.inl ⟨by rfl, fun _ hS => exec_move rfl rfl⟩) HSD.out ?_
      refine wpAnyH_take (i := 14) (v := .int .i64 (n3 : Int)) rfl (by kernel_rfl) (by kernel_rfl) (by kernel_rfl) (fun _ _ _ h => h) (.inl ⟨by rfl, fun _ hS => by go_simp⟩) HSD.out ?_
      refine wpAnyH_take (i := 15) (v := .int .u64 (n3 : Int)) rfl (by kernel_rfl) (by kernel_rfl) (by kernel_rfl) (fun _ _ _ h => h) (.inl ⟨by rfl, fun _ hS => by go_simp⟩) HSD.out ?_
      refine wpAnyH_take (i := 16) (v := .int .u64 ((IntKind.u64.wrap at_).tmod (n3 : Int))) rfl (by kernel_rfl) (by kernel_rfl) (by kernel_rfl) (fun _ _ _ h => h) (.inl ⟨by rfl, fun _ hS => by go_simp; omega⟩) HSD.out ?_
      refine wpAnyH_take (i := 17) (v := .int .i64 (K3 : Int)) rfl (by kernel_rfl) (by kernel_rfl) (by kernel_rfl) (fun _ _ _ h => h) (.inl ⟨by rfl, fun _ hS => by go_simp; have h := hK3; unfold wrap64 at h; rw [IntKind.wrap_i64]; omega⟩) HSD.out ?_
      refine wpAnyH_take (i := 18) (v := .pointer (some ⟨b3, o3 + K3 * 2, none⟩)) rfl (by kernel_rfl) (by kernel_rfl) (by kernel_rfl) (fun _ _ _ h => h) (.inl ⟨by rfl, fun _ hS => by go_simp⟩) HSD.out ?_
      refine wpAnyH_take (i := 19) (v := .agg #[.int .i64 zf, .slice az nz cz]) rfl (by kernel_rfl) (by kernel_rfl) (by kernel_rfl) (fun _ _ _ h => h) (.inl ⟨by rfl, fun _ hS => by obtain ⟨hS1, hS2, hS3, hS4⟩ := hS; go_simp⟩) HSD.out ?_
      simp only [Act.put, List.getElem_toArray, List.getElem_cons_zero, List.getElem_cons_succ, List.setIfInBounds_toArray, List.set_cons_succ, List.set_cons_zero]
      have c1 := (Below.alloc HBD.out HBD.out.size (.cells #[.int .i64 0, .slice none 0 0] 45))
      have hz := HBD.out.size
      have hV1 : (V.alloc (.cells #[.int .i64 0, .slice none 0 0] 45)).heap.size = V.heap.size + 1 := by simp
      have c2 := (Below.alloc c1 c1.size (.cells #[.int .i64 0, .slice none 0 0] 45))
      have x8 := Box.made V 45 [.int .i64 0, .slice none 0 0]
      have x9 := Box.made (V.alloc (.cells #[.int .i64 0, .slice none 0 0] 45)) 45 [.int .i64 0, .slice none 0 0]
      have HV1 := hid hV1
      refine anyH_two (i := 20) (k := 21) (by kernel_rfl) rfl rfl (exec_allocM rfl) (HSS.out _ c1) rfl rfl (exec_allocM rfl) (HSS.out _ c1) ?_ ?_
      · refine anyH_one (i := 21) (by kernel_rfl) rfl rfl (exec_allocM rfl) (HSS.out _ c2) ?_
        simp only [Act.put, List.getElem_toArray, List.getElem_cons_zero, List.getElem_cons_succ, List.setIfInBounds_toArray, List.set_cons_succ, List.set_cons_zero]
        generalize (V.alloc (.cells #[.int .i64 0, .slice none 0 0] 45)).heap.size = G at x9 hV1 ⊢
        generalize hVV : V.heap.size = VV at x8 hV1 hz ⊢
        have y8 := (x8.alloc (.cells #[.int .i64 0, .slice none 0 0] 45)).pair (.int .i64 yf) (.slice ay ny cy)
        have c3 := below_pair (B := VV) (a := .int .i64 yf) (b := .slice ay ny cy) c2 hz
        have y9 := box_far6 (box_far6 x9 (show G ≠ VV by omega) 0 (.int .i64 yf)) (show G ≠ VV by omega) 1 (.slice ay ny cy)
        have y92 := y9.pair (.int .i64 zf) (.slice az nz cz)
        have y82 := box_far6 (box_far6 y8 (show VV ≠ G by omega) 0 (.int .i64 zf)) (show VV ≠ G by omega) 1 (.slice az nz cz)
        have c4 := below_pair (B := G) (a := .int .i64 zf) (b := .slice az nz cz) c3 (by omega)
        refine anyH_skip (i := 22) (by kernel_rfl) rfl rfl rfl (exec_storeM rfl rfl rfl (x8.alloc _)) (HSS.out _ c3) ?_
        refine anyH_skip (i := 23) (by kernel_rfl) rfl rfl rfl (exec_storeM rfl rfl rfl y9) (HSS.out _ c4) ?_
        refine wpAnyH_done (by kernel_rfl) ?_ _
        go_wp2_with (fail)
        go_meet
        case rel => exact ⟨_, _, rfl, rfl, y82, y92, c4⟩
      · refine anyH_one (i := 20) (by kernel_rfl) rfl rfl (exec_allocM rfl) (HSS.out _ c2) ?_
        simp only [Act.put, List.getElem_toArray, List.getElem_cons_zero, List.getElem_cons_succ, List.setIfInBounds_toArray, List.set_cons_succ, List.set_cons_zero]
        generalize (V.alloc (.cells #[.int .i64 0, .slice none 0 0] 45)).heap.size = G at x9 hV1 ⊢
        generalize hVV : V.heap.size = VV at x8 hV1 hz ⊢
        have y8 := x9.pair (.int .i64 yf) (.slice ay ny cy)
        have c3 := below_pair (B := G) (a := .int .i64 yf) (b := .slice ay ny cy) c2 (by omega)
        have y9 := box_far6 (box_far6 (x8.alloc (.cells #[.int .i64 0, .slice none 0 0] 45)) (show VV ≠ G by omega) 0 (.int .i64 yf)) (show VV ≠ G by omega) 1 (.slice ay ny cy)
        have y92 := y9.pair (.int .i64 zf) (.slice az nz cz)
        have y82 := box_far6 (box_far6 y8 (show G ≠ VV by omega) 0 (.int .i64 zf)) (show G ≠ VV by omega) 1 (.slice az nz cz)
        have c4 := below_pair (B := VV) (a := .int .i64 zf) (b := .slice az nz cz) c3 hz
        refine anyH_skip (i := 22) (by kernel_rfl) rfl rfl rfl (exec_storeM rfl rfl rfl x9) (HSS.out _ c3) ?_
        refine anyH_skip (i := 23) (by kernel_rfl) rfl rfl rfl (exec_storeM rfl rfl rfl y9) (HSS.out _ c4) ?_
        refine wpAnyH_done (by kernel_rfl) ?_ _
        go_wp2_with (fail)
        go_meet
        case rel => exact ⟨_, _, rfl, rfl, y82, y92, c4⟩
    case rest =>
      obtain ⟨B8, B9, hp8, hp9, hb8, hb9, hbw⟩ := hcut
      subst hp8 hp9
      have HXC := hid (HX.out.below hbw.out HX.out.lt)
      have HVC := hid (HV.out.below hbw.out)
      have HYC := hid (HYW.out.below hbw.out)
      have HZC := hid (HZW.out.below hbw.out)
      have HBC := hid (HBX.out.trans (hbw.out.mono HBX.out.size))
      clear HX HV HYW HZW HBX HY HZ s4 s5 s7 s8 hbw
      have t0 := HXC.out.cell 0
      have t1 := hb8.out.cell 0
      have t2 := hb8.out.cell 1
      have t3 := hb9.out.cell 0
      have t4 := hb9.out.cell 1
      simp only [List.getElem?_cons_zero, List.getElem?_cons_succ] at t0 t1 t2 t3 t4
      have HSS := hid (fun w' (h : Below wc.heap.size wc w') => (show w'.cell? ⟨X, 0, none⟩ = some (.int .i64 rf) ∧ w'.cell? ⟨B8, 0, none⟩ = some (.int .i64 yf) ∧ w'.cell? ⟨B8, 1, none⟩ = some (.slice ay ny cy) ∧ w'.cell? ⟨B9, 0, none⟩ = some (.int .i64 zf) ∧ w'.cell? ⟨B9, 1, none⟩ = some (.slice az nz cz) from ⟨(h.cell (World.block_lt_of_cell? wc _ t0)).trans t0, (h.cell (World.block_lt_of_cell? wc _ t1)).trans t1, (h.cell (World.block_lt_of_cell? wc _ t2)).trans t2, (h.cell (World.block_lt_of_cell? wc _ t3)).trans t3, (h.cell (World.block_lt_of_cell? wc _ t4)).trans t4⟩))
      have HC := hid (fun w => ucdCanon rf w)
      rw [hw.out] at HC
      have HM := hid (fun w => ucdCompat yf w)
      rw [hc2.out.1] at HM
      have HF := hid (fun w => ucdFold zf w)
      rw [hc3.out.1] at HF
      have HB0 := hid (Below.refl wc.heap.size wc).drew
      clear t0 t1 t2 t3 t4 hK1 hK2 hK3 k1 k2 k3 u1 u2 u3 z1 z2 z3 l2 l3 m2 m3 e1 e2 e3 q1 q2 q3 L1 L2 L3 L4 L5 L6
      go_wp2_with (fail)
      go_region_held3 (fun w' => w'.cell? ⟨X, 0, none⟩ = some (.int .i64 rf) ∧ w'.cell? ⟨B8, 0, none⟩ = some (.int .i64 yf) ∧ w'.cell? ⟨B8, 1, none⟩ = some (.slice ay ny cy) ∧ w'.cell? ⟨B9, 0, none⟩ = some (.int .i64 zf) ∧ w'.cell? ⟨B9, 1, none⟩ = some (.slice az nz cz))
        (first | exact HSS.out _ HB6.out | exact HSS.out _ HB5.out | exact HSS.out _ HB4.out | exact HSS.out _ HB3.out | exact HSS.out _ HB2.out | exact HSS.out _ HB1.out | exact HSS.out _ HB0.out)
        (first
          | (have _u := HB5; clear _u; go_simp; go_at_call 23; refine (keepInts v5 (.slice az nz cz) zt zt _ HO5.out (HZC.out.below HB5.out)).mono ?_; rw [eqL_self]; rintro e w6 ⟨rfl, n6, hw6⟩; have HB6 := hid (show Below wc.heap.size wc w6 from by rw [hw6]; exact below_drewN' HB5.out n6); clear hw6)
          | (have _u := HB4; clear _u; go_simp; go_at_call 28; refine (HF.out _).mono ?_; rintro e w5 ⟨v5, rfl, ho5, hb5⟩; have HO5 := hid ho5; have HB5 := hid (HB4.out.trans (hb5.mono HB4.out.size)); clear ho5 hb5)
          | (have _u := HB3; clear _u; go_simp; go_at_call 23; refine (keepInts v3 (.slice ay ny cy) yt yt _ HO3.out (HYC.out.below HB3.out)).mono ?_; rw [eqL_self]; rintro e w4 ⟨rfl, n4, hw4⟩; have HB4 := hid (show Below wc.heap.size wc w4 from by rw [hw4]; exact below_drewN' HB3.out n4); clear hw4)
          | (have _u := HB2; clear _u; go_simp; go_at_call 26; refine (HM.out _).mono ?_; rintro e w3 ⟨v3, rfl, ho3, hb3⟩; have HO3 := hid ho3; have HB3 := hid (HB2.out.trans (hb3.mono HB2.out.size)); clear ho3 hb3)
          | (have _u := HB1; clear _u; go_simp; go_at_call 23; refine (keepInts v1 _ [rt, rv] [rt, rv] _ HO1.out (HVC.out.below HB1.out)).mono ?_; rw [eqL_self]; rintro e w2 ⟨rfl, n2, hw2⟩; have HB2 := hid (show Below wc.heap.size wc w2 from by rw [hw2]; exact below_drewN' HB1.out n2); clear hw2)
          | (go_simp; go_at_call 24; refine (HC.out _).mono ?_; rintro e w1 ⟨v1, rfl, ho1, hb1⟩; have HO1 := hid ho1; have HB1 := hid (HB0.out.trans (hb1.mono HB0.out.size)); clear ho1 hb1))
      have hnz9 : nz ≤ 9223372036854775807 := by
        have h1 := HZC.out
        obtain ⟨_, _, _, h2, h3, _⟩ := h1
        have := HNZ.out
        unfold maxLen at h3
        omega
      go_wp2_with (fail)
      go_loopw [10] (fun iv wr => ∃ i : Nat, i ≤ nz ∧ iv = .int .i64 i ∧ Hid (Below wc.heap.size wc wr)) (fun iv _ => nz - (intOf iv).toNat)
      case atStart => exact ⟨0, by omega, rfl, HB6.out⟩
      case round =>
        obtain ⟨i, hi, rfl, hbel⟩ := hrel
        by_cases hlt : i < nz
        · obtain ⟨az', cz', hq, hq1, hqm, hq2⟩ := HZC.out
          injection hq with hq3 hq4 hq5
          subst hq3 hq5
          rcases hq2 with hq2 | ⟨bz, oz, rfl, hq6, hq7⟩
          · omega
          have hil : i < zt.length := by omega
          have ex := (hbel.out.cell (p := ⟨bz, oz + i, none⟩) (hq6 (by omega))).trans (hq7 i hil)
          have hx : mapS tabFolds (zt.getD i 0) = [] := hc3.out.2 _ (by
            rw [List.getD_eq_getElem?_getD, List.getElem?_eq_getElem hil]
            exact List.getElem_mem hil)
          clear hq6 hq7 hq1 hq4 hil hqm
          generalize zt.getD i 0 = x at ex hx
          have HFX := hid (fun w => ucdFold x w)
          rw [hx] at HFX
          have hbx := HFX
          clear hx hbx
          have r9 := (hb9.out.below hbel.out hb9.out.lt).cell 1
          simp only [List.getElem?_cons_zero, List.getElem?_cons_succ] at r9
          go_wp2_with (go_at_call 28; refine (HFX.out _).mono ?_; rintro e wf ⟨vf, rfl, hof, hbf⟩; obtain ⟨af, cf, rfl⟩ := hof.form; have HBF := hid (hbel.out.trans (hbf.mono hbel.out.size)); clear hof hbf)
          go_roundw
          case rel => exact ⟨i + 1, by omega, by go_num, HBF.out⟩
          case measure => simp [intOf]; omega
        · obtain rfl : i = nz := by omega
          have r9 := (hb9.out.below hbel.out hb9.out.lt).cell 1
          have r8 := (hb8.out.below hbel.out hb8.out.lt).cell 0
          simp only [List.getElem?_cons_zero, List.getElem?_cons_succ] at r8 r9
          have HCY := hid (fun w => ucdCanon yf w)
          rw [hc2.out.2] at HCY
          go_wp2_with (first
            | (go_at_call 24; refine (HCY.out _).mono ?_; rintro e wf ⟨vf, rfl, hof, hbf⟩; obtain ⟨af, cf, rfl⟩ := hof.form; have HBF := hid (hbel.out.trans (hbf.mono hbel.out.size)); clear hof hbf)
            | (go_at_call 30; refine (lawWakes6 _).mono ?_; rintro e wk ⟨rfl, hbk⟩; have HBK := hid (HBF.out.trans (hbk.mono HBF.out.size)); clear hbk))
          go_ret
          exact ⟨rfl, HBC.out.trans (HBK.out.mono HBC.out.size)⟩
end Go.Proofs.Ytpdcmfnemfopjaa
