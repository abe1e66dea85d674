/- Several texts in one: ItS6, ItS7, ItS8, Ord9a. -/
import Derived.Test.YtidjjaginindoaaGreatPk35
import Derived.Test.YtidjjaginindoaaGreatPk30
/-! ItS6 -/
namespace Go.Proofs.YtidjjaginindoaaGreat
open Go.RowKit

def SymAtI (it : List (Int × Int)) (g off cap n N : Nat) (pre post : List Value) (l : List (List Int)) : Prop := ∀ (A L R C : List Nat) (a m b : Nat) (w : World), Rit0 it g off pre post (A ++ L ++ R ++ C) w → A.length + L.length + R.length + C.length = n →
  a = A.length → m = a + L.length → b = m + R.length → 0 < L.length → 0 < R.length → L.length + R.length ≤ N → (∀ y ∈ R, y < l.length) → (∀ x ∈ L, ∀ y ∈ R, x < y) → L.Pairwise (ilt l) → R.Pairwise (ilt l) →
  Calls Tryz.prog 129 #[.slice (some ⟨g, off, none⟩) n cap, .int .i64 a, .int .i64 m, .int .i64 b, .func (.func 99) #[] #[]] w fun e w' => e = .returned (.tuple #[]) ∧
    ∃ M, M.Perm (L ++ R) ∧ M.Pairwise (ilt l) ∧ Rit it g off pre post w (A ++ M ++ C) w'

set_option maxHeartbeats 8000000 in
set_option maxRecDepth 100000 in
theorem symGenI (it : List (Int × Int)) (g off cap n N : Nat) (pre post : List Value) (l : List (List Int)) (hlc : l = lcl it) (hn : n ≤ 1000000) (ih : SymAtI it g off cap n N pre post l) (A L R C : List Nat) (a m b : Nat) (w : World) (hb : Rit0 it g off pre post (A ++ L ++ R ++ C) w) (hp : A.length + L.length + R.length + C.length = n)
    (ha : a = A.length) (hm : m = a + L.length) (hbb : b = m + R.length) (hL1 : 1 < L.length) (hR1 : 1 < R.length) (hN : L.length + R.length ≤ N + 1) (hR : ∀ y ∈ R, y < l.length) (hLR : ∀ x ∈ L, ∀ y ∈ R, x < y) (hsL : L.Pairwise (ilt l)) (hsR : R.Pairwise (ilt l)) :
    Calls Tryz.prog 129 #[.slice (some ⟨g, off, none⟩) n cap, .int .i64 a, .int .i64 m, .int .i64 b, .func (.func 99) #[] #[]] w fun e w' => e = .returned (.tuple #[]) ∧
      ∃ M, M.Perm (L ++ R) ∧ M.Pairwise (ilt l) ∧ Rit it g off pre post w (A ++ M ++ C) w' := by
  have HR := hid (Rit.refl hb)
  have HLC := hid hlc
  have IH := hid ih
  have hbn : b ≤ n := by omega
  obtain ⟨dl, hdl⟩ : ∃ dl, dl = L.length := ⟨_, rfl⟩
  obtain ⟨dr, hdr⟩ : ∃ dr, dr = R.length := ⟨_, rfl⟩
  obtain ⟨mid, hmid⟩ : ∃ mid, mid = (a + b) / 2 := ⟨_, rfl⟩
  obtain ⟨nn, hnn⟩ : ∃ nn, nn = mid + m := ⟨_, rfl⟩
  obtain ⟨p1, hp1⟩ : ∃ p1, p1 = nn - 1 := ⟨_, rfl⟩
  have HA := hid (show a = A.length ∧ m = a + L.length ∧ b = m + R.length ∧ 1 < L.length ∧ 1 < R.length ∧ L.length + R.length ≤ N + 1 ∧ A.length + L.length + R.length + C.length = n by omega)
  have HM := hid (show mid = (a + b) / 2 ∧ nn = mid + m ∧ p1 + 1 = nn by omega)
  have HRR := hid hR
  have HLR := hid hLR
  have HSL := hid hsL
  have HSR := hid hsR
  have w1 : (m : Int) - (a : Int) = (dl : Int) := by omega
  have w1' : ((dl : Int) == 1) = false := by simp; omega
  have w0 : (b : Int) - (m : Int) = (dr : Int) := by omega
  have w0' : ((dr : Int) == 1) = false := by simp; omega
  have wm : ((a : Int) + (b : Int)) / 2 = (mid : Int) := by omega
  have wn : (mid : Int) + (m : Int) = (nn : Int) := by omega
  have wp : (nn : Int) - 1 = (p1 : Int) := by omega
  have ham : a ≤ m := by omega
  have hmb : m < b := by omega
  have hmdb : mid ≤ b := by omega
  obtain ⟨i0, hi0, hz0, hz1, hz2⟩ := info_parts Tryz.infoItem
  clear hb hlc ih ha hm hbb hp hR hLR hsL hsR hL1 hR1 hdl hdr hmid hnn hp1 hN
  go_enter Tryz.func129, Tryz.ntmps129
  go_upto_if 140 with (fail)
  go_cut [20, 21] from 141 to 146 (fun sv rv wx => ∃ s0 r0 : Nat, sv = .int .i64 s0 ∧ rv = .int .i64 r0 ∧ Hid ((mid < m ∧ s0 + b = nn ∧ r0 = mid) ∨ (m ≤ mid ∧ s0 = a ∧ r0 = m)) ∧ w = wx)
  case first =>
    rcases Nat.lt_or_ge mid m with hmm | hmm
    · obtain ⟨s0, hs0⟩ : ∃ s0, s0 = nn - b := ⟨_, rfl⟩
      have hs0' : s0 + b = nn := by have := HM.out; omega
      have ws : (nn : Int) - (b : Int) = (s0 : Int) := by omega
      have HS0 := hid hs0'
      clear hs0 hs0'
      go_wp2_with (fail)
      go_meet
      case rel => exact ⟨s0, mid, rfl, rfl, .inl ⟨hmm, HS0.out, rfl⟩, rfl⟩
    · go_wp2_with (fail)
      go_meet
      case rel => exact ⟨a, m, rfl, rfl, .inr ⟨hmm, rfl, rfl⟩, rfl⟩
  case rest =>
    obtain ⟨s0, r0, rfl, rfl, hlo, rfl⟩ := hcut
    go_wp2_with (fail)
    go_loopw [20, 21] (fun sv rv wr => ∃ (s r : Nat), sv = .int .i64 s ∧ rv = .int .i64 r ∧ Hid (Rit it g off pre post w (A ++ L ++ R ++ C) wr) ∧ s0 ≤ s ∧ s ≤ r ∧ r ≤ r0 ∧ Hid (s = s0 ∨ ilt l (L.getD (s - 1 - a) 0) (R.getD (nn - 1 - (s - 1) - m) 0)) ∧ Hid (r = r0 ∨ ilt l (R.getD (nn - 1 - r - m) 0) (L.getD (r - a) 0))) (fun sv rv _ => (intOf rv).toNat - (intOf sv).toNat)
    case atStart => exact ⟨s0, r0, rfl, rfl, HR.out, by omega, by have := HA.out; have := HM.out; have := hlo.out; omega, by omega, .inl rfl, .inl rfl⟩
    case round =>
      obtain ⟨s, r, rfl, rfl, hr, hs0, hsr, hr0, hS, hRx⟩ := hrel
      by_cases hlt : s < r
      · obtain ⟨c, hc⟩ : ∃ c, c = (s + r) / 2 := ⟨_, rfl⟩
        obtain ⟨pc, hpc⟩ : ∃ pc, pc = p1 - c := ⟨_, rfl⟩
        have hnum : a ≤ c ∧ c < m ∧ m ≤ pc ∧ pc < b ∧ s ≤ c ∧ c < r ∧ pc + c = p1 := by have := HA.out; have := HM.out; have := hlo.out; omega
        obtain ⟨n1, n2, n3, n4, n5, n6, n7⟩ := hnum
        have wc : ((s : Int) + (r : Int)) / 2 = (c : Int) := by omega
        have wpc : (p1 : Int) - (c : Int) = (pc : Int) := by omega
        have hcn : c < n := by omega
        have hpn : pc < n := by omega
        have HPC : Hid (pc = nn - 1 - c) := hid (by have := HM.out; omega)
        clear hc hpc n7
        have hlen : (A ++ L ++ R ++ C).length = n := by have := HA.out; simp; omega
        have hcL : c - a < L.length := by have := HA.out; omega
        have hcR : pc - m < R.length := by have := HA.out; omega
        have gX : (A ++ L ++ R ++ C).getD c 0 = L.getD (c - a) 0 := by
          rw [show A ++ L ++ R ++ C = A ++ L ++ (R ++ C) by simp, at_left (by have := HA.out; omega) (by have := HA.out; omega), ← HA.out.1]
        have gY : (A ++ L ++ R ++ C).getD pc 0 = R.getD (pc - m) 0 := by
          rw [at_right (by have := HA.out; omega) (by have := HA.out; omega), show A.length + L.length = m by have := HA.out; omega]
        obtain ⟨c1, c1'⟩ := hr.out.at (i := c) (by omega)
        obtain ⟨c2, c2'⟩ := hr.out.at (i := pc) (by omega)
        rw [gX] at c1 c1'
        rw [gY] at c2 c2'
        obtain ⟨x, hx⟩ : ∃ x, x = L.getD (c - a) 0 := ⟨_, rfl⟩
        obtain ⟨y, hy⟩ : ∃ y, y = R.getD (pc - m) 0 := ⟨_, rfl⟩
        rw [← hx] at c1 c1'
        rw [← hy] at c2 c2'
        have hyR : y ∈ R := by rw [hy]; exact getD_memN hcR
        have hxy : x < y := HLR.out x (by rw [hx]; exact getD_memN hcL) y hyR
        have HYL := hid (HRR.out y hyR)
        have HXY := hid hxy
        have HX := hid hx
        have HY := hid hy
        obtain ⟨xn, hxn⟩ : ∃ n, n = (it.getD x noIt).1 := ⟨_, rfl⟩
        obtain ⟨xc, hxc⟩ : ∃ n, n = (it.getD x noIt).2 := ⟨_, rfl⟩
        obtain ⟨yn, hyn⟩ : ∃ n, n = (it.getD y noIt).1 := ⟨_, rfl⟩
        obtain ⟨yc, hyc⟩ : ∃ n, n = (it.getD y noIt).2 := ⟨_, rfl⟩
        rw [← hyn] at c2
        rw [← hyc] at c2'
        rw [← hxn] at c1
        rw [← hxc] at c1'
        have HLT := hid (cmpI_lt HLC.out HXY.out HYL.out hyc hxc)
        have HGE := hid (cmpI_ge HLC.out HXY.out HYL.out hyc hxc)
        have s1 := fun u : Later wr => u.cell c1
        have s1' := fun u : Later wr => u.cell c1'
        have s2 := fun u : Later wr => u.cell c2
        have s2' := fun u : Later wr => u.cell c2'
        have HCM := hid (fun u : Later wr => later_call (byClass yn yc xn xc u.w))
        clear hx hy hyR hxy hcL hcR hlen gX gY hxn hxc hyn hyc c1 c1' c2 c2'
        go_wp2
        refine region_later (by kernel_rfl) (by kernel_rfl) ?_
        repeat (go_big_quiet_step (first | (go_at_call 99; with_reducible exact HCM.out _)))
        refine wpQuiet_nil ?_
        intro _ hw'
        obtain ⟨u, hw''⟩ := hw'
        subst hw''
        have HRU := hid (hr.out.below u.below)
        clear s1 s1' s2 s2'
        generalize u.w = wu at HRU ⊢
        obtain ⟨z, hz⟩ : ∃ z, z = cmpI yc xc := ⟨_, rfl⟩
        rw [← hz] at HLT HGE ⊢
        clear hz
        by_cases he : z < 0
        · have HN : Hid (ilt l (R.getD (nn - 1 - c - m) 0) (L.getD (c - a) 0)) := hid (by rw [← HPC.out, ← HX.out, ← HY.out]; exact HLT.out.1 (by omega))
          go_wp2
          · exfalso
            rename_i hz
            simp at hz
            omega
          go_roundw
          case rel => exact ⟨s, c, rfl, rfl, HRU.out, hs0, n5, by omega, hS.out, .inr HN.out⟩
          case measure => simp [intOf]; omega
        · have HN : Hid (ilt l (L.getD (c + 1 - 1 - a) 0) (R.getD (nn - 1 - (c + 1 - 1) - m) 0)) := hid (by rw [Nat.add_sub_cancel, ← HPC.out, ← HX.out, ← HY.out]; exact HGE.out.1 (by omega))
          go_wp2
          · go_roundw
            case rel => exact ⟨c + 1, r, by go_num, rfl, HRU.out, by omega, by omega, hr0, .inr HN.out, hRx.out⟩
            case measure => simp [intOf]; omega
          · exfalso
            rename_i hz
            simp at hz
            omega
      · obtain rfl : r = s := by omega
        have hparts := sym_parts HA.out.2.1 HA.out.2.2.1 HM.out.1 HM.out.2.1 hlo.out hs0 hr0 HSL.out HSR.out hS.out hRx.out
        obtain ⟨q1, q2, q3, q4, hX1, hX2⟩ := hparts
        obtain ⟨e, he⟩ : ∃ e, e = nn - r := ⟨_, rfl⟩
        rw [← he] at q3 q4 hX1 hX2
        have we : (nn : Int) - (r : Int) = (e : Int) := by have := HA.out; have := HM.out; omega
        have hL2 := cut_rel HSL.out (r - a)
        have hR2 := cut_rel HSR.out (e - m)
        have hpl1 := HSL.out.sublist (List.take_sublist (r - a) L)
        have hpl2 := HSL.out.sublist (List.drop_sublist (r - a) L)
        have hpr1 := HSR.out.sublist (List.take_sublist (e - m) R)
        have hpr2 := HSR.out.sublist (List.drop_sublist (e - m) R)
        have hll1 : (L.take (r - a)).length = r - a := by rw [List.length_take]; have := HA.out; omega
        have hll2 : (L.drop (r - a)).length = m - r := by rw [List.length_drop]; have := HA.out; omega
        have hlr1 : (R.take (e - m)).length = e - m := by rw [List.length_take]; have := HA.out; omega
        have hlr2 : (R.drop (e - m)).length = b - e := by rw [List.length_drop]; have := HA.out; omega
        have heL := (List.take_append_drop (r - a) L).symm
        have heR := (List.take_append_drop (e - m) R).symm
        generalize L.take (r - a) = L1 at hL2 hpl1 hll1 heL hX1 hX2
        generalize L.drop (r - a) = L2 at hL2 hpl2 hll2 heL hX1 hX2
        generalize R.take (e - m) = R1 at hR2 hpr1 hlr1 heR hX1 hX2
        generalize R.drop (e - m) = R2 at hR2 hpr2 hlr2 heR hX1 hX2
        have HE := hid (show e = nn - r ∧ e + r = mid + m by have := HA.out; have := HM.out; omega)
        have HLEN := hid (show L1.length = r - a ∧ L2.length = m - r ∧ R1.length = e - m ∧ R2.length = b - e from ⟨hll1, hll2, hlr1, hlr2⟩)
        have HJ := hid (fun (M1 M2 : List Nat) (h1 : M1.Perm (L1 ++ R1)) (h2 : M2.Perm (L2 ++ R2)) (p1 : M1.Pairwise (ilt l)) (p2 : M2.Pairwise (ilt l)) => (⟨by rw [heL, heR]; exact perm_join h1 h2, pw_join h1 h2 p1 p2 hL2 hX1 hX2 hR2⟩ : (M1 ++ M2).Perm (L ++ R) ∧ (M1 ++ M2).Pairwise (ilt l)))
        have HLR11 := hid (show ∀ x ∈ L1, ∀ y ∈ R1, x < y from fun x hx y hy => HLR.out x (by rw [heL]; exact List.mem_append_left _ hx) y (by rw [heR]; exact List.mem_append_left _ hy))
        have HLR22 := hid (show ∀ x ∈ L2, ∀ y ∈ R2, x < y from fun x hx y hy => HLR.out x (by rw [heL]; exact List.mem_append_right _ hx) y (by rw [heR]; exact List.mem_append_right _ hy))
        have HRR1 := hid (show ∀ y ∈ R1, y < l.length from fun y hy => HRR.out y (by rw [heR]; exact List.mem_append_left _ hy))
        have HRR2 := hid (show ∀ y ∈ R2, y < l.length from fun y hy => HRR.out y (by rw [heR]; exact List.mem_append_right _ hy))
        have HPW := hid (show L1.Pairwise (ilt l) ∧ L2.Pairwise (ilt l) ∧ R1.Pairwise (ilt l) ∧ R2.Pairwise (ilt l) from ⟨hpl1, hpl2, hpr1, hpr2⟩)
        have HR0 : Hid (Rit it g off pre post w (A ++ L1 ++ L2 ++ R1 ++ (R2 ++ C)) wr) := hid (by have := hr.out; rw [heL, heR] at this; simpa using this)
        have HTOT := hid (show A.length = a ∧ L1.length + L2.length = L.length ∧ R1.length + R2.length = R.length ∧ A.length + L1.length + L2.length + R1.length + R2.length + C.length = n by have := HA.out; omega)
        clear hL2 hR2 hpl1 hpl2 hpr1 hpr2 hll1 hll2 hlr1 hlr2 heL heR hX1 hX2 he hS hRx hlo hs0 hr0
        clear hr
        obtain ⟨wz, hwz⟩ : ∃ wz, wz = wr := ⟨_, rfl⟩
        rw [← hwz] at HR0 ⊢
        clear hwz
        rcases Nat.lt_or_ge r m with hrm | hrm
        · rcases Nat.lt_or_ge m e with hme | hme
          · have hrmid : r < mid := by have := HA.out; have := HM.out; have := HE.out; have := HLEN.out; have := HTOT.out; omega
            have hmide : mid < e := by have := HA.out; have := HM.out; have := HE.out; have := HLEN.out; have := HTOT.out; omega
            rcases Nat.lt_or_ge a r with har | har
            · rcases Nat.lt_or_ge e b with heb | heb
              · go_wp2_with (first
                  | (go_at_call 135; refine (rotateItems it g off cap n pre post (A ++ L1) L2 R1 (R2 ++ C) r m e _ wz HR0.out.1 (by have := HA.out; have := HM.out; have := HE.out; have := HLEN.out; have := HTOT.out; simp only [List.length_append]; omega) hn (by have := HA.out; have := HM.out; have := HE.out; have := HLEN.out; have := HTOT.out; omega) (by have := HA.out; have := HM.out; have := HE.out; have := HLEN.out; have := HTOT.out; omega) (by have := HA.out; have := HM.out; have := HE.out; have := HLEN.out; have := HTOT.out; simp only [List.length_append]; omega) (by have := HA.out; have := HM.out; have := HE.out; have := HLEN.out; have := HTOT.out; omega) (by have := HA.out; have := HM.out; have := HE.out; have := HLEN.out; have := HTOT.out; omega)).mono ?_; rintro e6 w6 ⟨rfl, hr6⟩; have HR6 := hid (HR0.out.trans hr6); clear hr6)
                  | (go_at_call 129; refine (IH.out (A ++ M1) L2 R2 C mid e b w7 (by have := HR7.out.1; simpa using this) (by have := HL7.out; simp only [List.length_append] at this ⊢; have := HTOT.out; omega) (by have := HL7.out; simp only [List.length_append] at this ⊢; have := HTOT.out; have := HLEN.out; have := HE.out; omega) (by have := HA.out; have := HM.out; have := HE.out; have := HLEN.out; have := HTOT.out; omega) (by have := HA.out; have := HM.out; have := HE.out; have := HLEN.out; have := HTOT.out; omega) (by have := HA.out; have := HM.out; have := HE.out; have := HLEN.out; have := HTOT.out; omega) (by have := HA.out; have := HM.out; have := HE.out; have := HLEN.out; have := HTOT.out; omega) (by have := HA.out; have := HM.out; have := HE.out; have := HLEN.out; have := HTOT.out; omega) HRR2.out HLR22.out HPW.out.2.1 HPW.out.2.2.2).mono ?_; rintro e8 w8 ⟨rfl, M2, hp8, hs8, hr8⟩; have HP8 := hid hp8; have HS8 := hid hs8; have HR8 := hid (HR7.out.trans hr8); clear hp8 hs8 hr8)
                  | (go_at_call 129; refine (IH.out A L1 R1 (L2 ++ (R2 ++ C)) a r mid w6 (by have := HR6.out.1; simpa using this) (by have := HA.out; have := HM.out; have := HE.out; have := HLEN.out; have := HTOT.out; simp only [List.length_append]; omega) (by have := HA.out; have := HM.out; have := HE.out; have := HLEN.out; have := HTOT.out; omega) (by have := HA.out; have := HM.out; have := HE.out; have := HLEN.out; have := HTOT.out; omega) (by have := HA.out; have := HM.out; have := HE.out; have := HLEN.out; have := HTOT.out; omega) (by have := HA.out; have := HM.out; have := HE.out; have := HLEN.out; have := HTOT.out; omega) (by have := HA.out; have := HM.out; have := HE.out; have := HLEN.out; have := HTOT.out; omega) (by have := HA.out; have := HM.out; have := HE.out; have := HLEN.out; have := HTOT.out; omega) HRR1.out HLR11.out HPW.out.1 HPW.out.2.2.1).mono ?_; rintro e7 w7 ⟨rfl, M1, hp7, hs7, hr7⟩; have HP7 := hid hp7; have HS7 := hid hs7; have HR7 := hid (HR6.out.trans hr7); have HL7 := hid (hp7.length_eq); clear hp7 hs7 hr7))
                go_end0
                refine ⟨rfl, M1 ++ M2, (HJ.out _ _ HP7.out HP8.out HS7.out HS8.out).1, (HJ.out _ _ HP7.out HP8.out HS7.out HS8.out).2, ?_⟩
                have := HR8.out
                simpa using this
              · go_wp2_with (first
                  | (go_at_call 135; refine (rotateItems it g off cap n pre post (A ++ L1) L2 R1 (R2 ++ C) r m e _ wz HR0.out.1 (by have := HA.out; have := HM.out; have := HE.out; have := HLEN.out; have := HTOT.out; simp only [List.length_append]; omega) hn (by have := HA.out; have := HM.out; have := HE.out; have := HLEN.out; have := HTOT.out; omega) (by have := HA.out; have := HM.out; have := HE.out; have := HLEN.out; have := HTOT.out; omega) (by have := HA.out; have := HM.out; have := HE.out; have := HLEN.out; have := HTOT.out; simp only [List.length_append]; omega) (by have := HA.out; have := HM.out; have := HE.out; have := HLEN.out; have := HTOT.out; omega) (by have := HA.out; have := HM.out; have := HE.out; have := HLEN.out; have := HTOT.out; omega)).mono ?_; rintro e6 w6 ⟨rfl, hr6⟩; have HR6 := hid (HR0.out.trans hr6); clear hr6)
                  | (go_at_call 129; refine (IH.out A L1 R1 (L2 ++ (R2 ++ C)) a r mid w6 (by have := HR6.out.1; simpa using this) (by have := HA.out; have := HM.out; have := HE.out; have := HLEN.out; have := HTOT.out; simp only [List.length_append]; omega) (by have := HA.out; have := HM.out; have := HE.out; have := HLEN.out; have := HTOT.out; omega) (by have := HA.out; have := HM.out; have := HE.out; have := HLEN.out; have := HTOT.out; omega) (by have := HA.out; have := HM.out; have := HE.out; have := HLEN.out; have := HTOT.out; omega) (by have := HA.out; have := HM.out; have := HE.out; have := HLEN.out; have := HTOT.out; omega) (by have := HA.out; have := HM.out; have := HE.out; have := HLEN.out; have := HTOT.out; omega) (by have := HA.out; have := HM.out; have := HE.out; have := HLEN.out; have := HTOT.out; omega) HRR1.out HLR11.out HPW.out.1 HPW.out.2.2.1).mono ?_; rintro e7 w7 ⟨rfl, M1, hp7, hs7, hr7⟩; have HP7 := hid hp7; have HS7 := hid hs7; have HR7 := hid (HR6.out.trans hr7); have HL7 := hid (hp7.length_eq); clear hp7 hs7 hr7))
                go_end0
                have HP8 : Hid ((L2 ++ R2).Perm (L2 ++ R2)) := List.Perm.refl _
                have HS8 : Hid ((L2 ++ R2).Pairwise (ilt l)) := hid (by first | exact pw_noleft (by have := HLEN.out; have := HM.out; have := HE.out; omega) HPW.out.2.2.2 | exact pw_noright (by have := HLEN.out; have := HM.out; have := HE.out; omega) HPW.out.2.1)
                have HR8 := HR7
                refine ⟨rfl, M1 ++ (L2 ++ R2), (HJ.out _ _ HP7.out HP8.out HS7.out HS8.out).1, (HJ.out _ _ HP7.out HP8.out HS7.out HS8.out).2, ?_⟩
                have := HR8.out
                simpa using this
            · rcases Nat.lt_or_ge e b with heb | heb
              · have HP7 : Hid ((L1 ++ R1).Perm (L1 ++ R1)) := List.Perm.refl _
                have HS7 : Hid ((L1 ++ R1).Pairwise (ilt l)) := hid (by first | exact pw_noleft (by have := HLEN.out; have := HM.out; have := HE.out; omega) HPW.out.2.2.1 | exact pw_noright (by have := HLEN.out; have := HM.out; have := HE.out; omega) HPW.out.1)
                have HL7 : Hid ((L1 ++ R1).length = (L1 ++ R1).length) := rfl
                go_wp2_with (first
                  | (go_at_call 135; refine (rotateItems it g off cap n pre post (A ++ L1) L2 R1 (R2 ++ C) r m e _ wz HR0.out.1 (by have := HA.out; have := HM.out; have := HE.out; have := HLEN.out; have := HTOT.out; simp only [List.length_append]; omega) hn (by have := HA.out; have := HM.out; have := HE.out; have := HLEN.out; have := HTOT.out; omega) (by have := HA.out; have := HM.out; have := HE.out; have := HLEN.out; have := HTOT.out; omega) (by have := HA.out; have := HM.out; have := HE.out; have := HLEN.out; have := HTOT.out; simp only [List.length_append]; omega) (by have := HA.out; have := HM.out; have := HE.out; have := HLEN.out; have := HTOT.out; omega) (by have := HA.out; have := HM.out; have := HE.out; have := HLEN.out; have := HTOT.out; omega)).mono ?_; rintro e6 w6 ⟨rfl, hr6⟩; have HR6 := hid (HR0.out.trans hr6); clear hr6; have HR7 : Hid (Rit it g off pre post w (A ++ (L1 ++ R1) ++ (L2 ++ (R2 ++ C))) w6) := hid (by have := HR6.out; simpa using this))
                  | (go_at_call 129; refine (IH.out (A ++ (L1 ++ R1)) L2 R2 C mid e b w6 (by have := HR7.out.1; simpa using this) (by have := HL7.out; simp only [List.length_append] at this ⊢; have := HTOT.out; omega) (by have := HL7.out; simp only [List.length_append] at this ⊢; have := HTOT.out; have := HLEN.out; have := HE.out; omega) (by have := HA.out; have := HM.out; have := HE.out; have := HLEN.out; have := HTOT.out; omega) (by have := HA.out; have := HM.out; have := HE.out; have := HLEN.out; have := HTOT.out; omega) (by have := HA.out; have := HM.out; have := HE.out; have := HLEN.out; have := HTOT.out; omega) (by have := HA.out; have := HM.out; have := HE.out; have := HLEN.out; have := HTOT.out; omega) (by have := HA.out; have := HM.out; have := HE.out; have := HLEN.out; have := HTOT.out; omega) HRR2.out HLR22.out HPW.out.2.1 HPW.out.2.2.2).mono ?_; rintro e8 w8 ⟨rfl, M2, hp8, hs8, hr8⟩; have HP8 := hid hp8; have HS8 := hid hs8; have HR8 := hid (HR7.out.trans hr8); clear hp8 hs8 hr8))
                go_end0
                refine ⟨rfl, (L1 ++ R1) ++ M2, (HJ.out _ _ HP7.out HP8.out HS7.out HS8.out).1, (HJ.out _ _ HP7.out HP8.out HS7.out HS8.out).2, ?_⟩
                have := HR8.out
                simpa using this
              · have HP7 : Hid ((L1 ++ R1).Perm (L1 ++ R1)) := List.Perm.refl _
                have HS7 : Hid ((L1 ++ R1).Pairwise (ilt l)) := hid (by first | exact pw_noleft (by have := HLEN.out; have := HM.out; have := HE.out; omega) HPW.out.2.2.1 | exact pw_noright (by have := HLEN.out; have := HM.out; have := HE.out; omega) HPW.out.1)
                have HL7 : Hid ((L1 ++ R1).length = (L1 ++ R1).length) := rfl
                go_wp2_with (first
                  | (go_at_call 135; refine (rotateItems it g off cap n pre post (A ++ L1) L2 R1 (R2 ++ C) r m e _ wz HR0.out.1 (by have := HA.out; have := HM.out; have := HE.out; have := HLEN.out; have := HTOT.out; simp only [List.length_append]; omega) hn (by have := HA.out; have := HM.out; have := HE.out; have := HLEN.out; have := HTOT.out; omega) (by have := HA.out; have := HM.out; have := HE.out; have := HLEN.out; have := HTOT.out; omega) (by have := HA.out; have := HM.out; have := HE.out; have := HLEN.out; have := HTOT.out; simp only [List.length_append]; omega) (by have := HA.out; have := HM.out; have := HE.out; have := HLEN.out; have := HTOT.out; omega) (by have := HA.out; have := HM.out; have := HE.out; have := HLEN.out; have := HTOT.out; omega)).mono ?_; rintro e6 w6 ⟨rfl, hr6⟩; have HR6 := hid (HR0.out.trans hr6); clear hr6; have HR7 : Hid (Rit it g off pre post w (A ++ (L1 ++ R1) ++ (L2 ++ (R2 ++ C))) w6) := hid (by have := HR6.out; simpa using this)))
                go_end0
                have HP8 : Hid ((L2 ++ R2).Perm (L2 ++ R2)) := List.Perm.refl _
                have HS8 : Hid ((L2 ++ R2).Pairwise (ilt l)) := hid (by first | exact pw_noleft (by have := HLEN.out; have := HM.out; have := HE.out; omega) HPW.out.2.2.2 | exact pw_noright (by have := HLEN.out; have := HM.out; have := HE.out; omega) HPW.out.2.1)
                have HR8 := HR7
                refine ⟨rfl, (L1 ++ R1) ++ (L2 ++ R2), (HJ.out _ _ HP7.out HP8.out HS7.out HS8.out).1, (HJ.out _ _ HP7.out HP8.out HS7.out HS8.out).2, ?_⟩
                have := HR8.out
                simpa using this
          · have f1 : a < r := by have := HA.out; have := HM.out; have := HE.out; have := HLEN.out; have := HTOT.out; omega
            have f2 : mid ≤ r := by have := HA.out; have := HM.out; have := HE.out; have := HLEN.out; have := HTOT.out; omega
            have f3 : mid < e := by have := HA.out; have := HM.out; have := HE.out; have := HLEN.out; have := HTOT.out; omega
            have f4 : e < b := by have := HA.out; have := HM.out; have := HE.out; have := HLEN.out; have := HTOT.out; omega
            have HR6 : Hid (Rit it g off pre post w (A ++ L1 ++ R1 ++ L2 ++ (R2 ++ C)) wz) := hid (by rw [← nil_rot (X := L2) (Y := R1) (by have := HLEN.out; omega)]; exact HR0.out)
            have HP7 : Hid ((L1 ++ R1).Perm (L1 ++ R1)) := List.Perm.refl _
            have HS7 : Hid ((L1 ++ R1).Pairwise (ilt l)) := hid (by first | exact pw_noleft (by have := HLEN.out; have := HM.out; have := HE.out; omega) HPW.out.2.2.1 | exact pw_noright (by have := HLEN.out; have := HM.out; have := HE.out; omega) HPW.out.1)
            have HR7 : Hid (Rit it g off pre post w (A ++ (L1 ++ R1) ++ (L2 ++ (R2 ++ C))) wz) := hid (by have := HR6.out; simpa using this)
            have HL7 : Hid ((L1 ++ R1).length = (L1 ++ R1).length) := rfl
            go_wp2_with (first
              | (go_at_call 129; refine (IH.out (A ++ (L1 ++ R1)) L2 R2 C mid e b wz (by have := HR7.out.1; simpa using this) (by have := HL7.out; simp only [List.length_append] at this ⊢; have := HTOT.out; omega) (by have := HL7.out; simp only [List.length_append] at this ⊢; have := HTOT.out; have := HLEN.out; have := HE.out; omega) (by have := HA.out; have := HM.out; have := HE.out; have := HLEN.out; have := HTOT.out; omega) (by have := HA.out; have := HM.out; have := HE.out; have := HLEN.out; have := HTOT.out; omega) (by have := HA.out; have := HM.out; have := HE.out; have := HLEN.out; have := HTOT.out; omega) (by have := HA.out; have := HM.out; have := HE.out; have := HLEN.out; have := HTOT.out; omega) (by have := HA.out; have := HM.out; have := HE.out; have := HLEN.out; have := HTOT.out; omega) HRR2.out HLR22.out HPW.out.2.1 HPW.out.2.2.2).mono ?_; rintro e8 w8 ⟨rfl, M2, hp8, hs8, hr8⟩; have HP8 := hid hp8; have HS8 := hid hs8; have HR8 := hid (HR7.out.trans hr8); clear hp8 hs8 hr8))
            go_end0
            refine ⟨rfl, (L1 ++ R1) ++ M2, (HJ.out _ _ HP7.out HP8.out HS7.out HS8.out).1, (HJ.out _ _ HP7.out HP8.out HS7.out HS8.out).2, ?_⟩
            have := HR8.out
            simpa using this
        · rcases Nat.lt_or_ge m e with hme | hme
          · have f1 : a < r := by have := HA.out; have := HM.out; have := HE.out; have := HLEN.out; have := HTOT.out; omega
            have f2 : r < mid := by have := HA.out; have := HM.out; have := HE.out; have := HLEN.out; have := HTOT.out; omega
            have f3 : e ≤ mid := by have := HA.out; have := HM.out; have := HE.out; have := HLEN.out; have := HTOT.out; omega
            have HR6 : Hid (Rit it g off pre post w (A ++ L1 ++ R1 ++ L2 ++ (R2 ++ C)) wz) := hid (by rw [← nil_rot (X := L2) (Y := R1) (by have := HLEN.out; omega)]; exact HR0.out)
            go_wp2_with (first
              | (go_at_call 129; refine (IH.out A L1 R1 (L2 ++ (R2 ++ C)) a r mid wz (by have := HR6.out.1; simpa using this) (by have := HA.out; have := HM.out; have := HE.out; have := HLEN.out; have := HTOT.out; simp only [List.length_append]; omega) (by have := HA.out; have := HM.out; have := HE.out; have := HLEN.out; have := HTOT.out; omega) (by have := HA.out; have := HM.out; have := HE.out; have := HLEN.out; have := HTOT.out; omega) (by have := HA.out; have := HM.out; have := HE.out; have := HLEN.out; have := HTOT.out; omega) (by have := HA.out; have := HM.out; have := HE.out; have := HLEN.out; have := HTOT.out; omega) (by have := HA.out; have := HM.out; have := HE.out; have := HLEN.out; have := HTOT.out; omega) (by have := HA.out; have := HM.out; have := HE.out; have := HLEN.out; have := HTOT.out; omega) HRR1.out HLR11.out HPW.out.1 HPW.out.2.2.1).mono ?_; rintro e7 w7 ⟨rfl, M1, hp7, hs7, hr7⟩; have HP7 := hid hp7; have HS7 := hid hs7; have HR7 := hid (HR6.out.trans hr7); have HL7 := hid (hp7.length_eq); clear hp7 hs7 hr7))
            go_end0
            have HP8 : Hid ((L2 ++ R2).Perm (L2 ++ R2)) := List.Perm.refl _
            have HS8 : Hid ((L2 ++ R2).Pairwise (ilt l)) := hid (by first | exact pw_noleft (by have := HLEN.out; have := HM.out; have := HE.out; omega) HPW.out.2.2.2 | exact pw_noright (by have := HLEN.out; have := HM.out; have := HE.out; omega) HPW.out.2.1)
            have HR8 := HR7
            refine ⟨rfl, M1 ++ (L2 ++ R2), (HJ.out _ _ HP7.out HP8.out HS7.out HS8.out).1, (HJ.out _ _ HP7.out HP8.out HS7.out HS8.out).2, ?_⟩
            have := HR8.out
            simpa using this
          · have f1 : a < r := by have := HA.out; have := HM.out; have := HE.out; have := HLEN.out; have := HTOT.out; omega
            have f2 : mid ≤ r := by have := HA.out; have := HM.out; have := HE.out; have := HLEN.out; have := HTOT.out; omega
            have f3 : e ≤ mid := by have := HA.out; have := HM.out; have := HE.out; have := HLEN.out; have := HTOT.out; omega
            have HR6 : Hid (Rit it g off pre post w (A ++ L1 ++ R1 ++ L2 ++ (R2 ++ C)) wz) := hid (by rw [← nil_rot (X := L2) (Y := R1) (by have := HLEN.out; omega)]; exact HR0.out)
            have HP7 : Hid ((L1 ++ R1).Perm (L1 ++ R1)) := List.Perm.refl _
            have HS7 : Hid ((L1 ++ R1).Pairwise (ilt l)) := hid (by first | exact pw_noleft (by have := HLEN.out; have := HM.out; have := HE.out; omega) HPW.out.2.2.1 | exact pw_noright (by have := HLEN.out; have := HM.out; have := HE.out; omega) HPW.out.1)
            have HR7 : Hid (Rit it g off pre post w (A ++ (L1 ++ R1) ++ (L2 ++ (R2 ++ C))) wz) := hid (by have := HR6.out; simpa using this)
            have HL7 : Hid ((L1 ++ R1).length = (L1 ++ R1).length) := rfl
            go_wp2_with (fail)
            go_end0
            have HP8 : Hid ((L2 ++ R2).Perm (L2 ++ R2)) := List.Perm.refl _
            have HS8 : Hid ((L2 ++ R2).Pairwise (ilt l)) := hid (by first | exact pw_noleft (by have := HLEN.out; have := HM.out; have := HE.out; omega) HPW.out.2.2.2 | exact pw_noright (by have := HLEN.out; have := HM.out; have := HE.out; omega) HPW.out.2.1)
            have HR8 := HR7
            refine ⟨rfl, (L1 ++ R1) ++ (L2 ++ R2), (HJ.out _ _ HP7.out HP8.out HS7.out HS8.out).1, (HJ.out _ _ HP7.out HP8.out HS7.out HS8.out).2, ?_⟩
            have := HR8.out
            simpa using this
end Go.Proofs.YtidjjaginindoaaGreat

/-! ItS7 -/
namespace Go.Proofs.YtidjjaginindoaaGreat
open Go.RowKit

theorem symAllI (it : List (Int × Int)) (g off cap n : Nat) (pre post : List Value) (l : List (List Int)) (hlc : l = lcl it) (hn : n ≤ 1000000) : ∀ N, SymAtI it g off cap n N pre post l
  | 0 => fun A L R C a m b w hb hp ha hm hbb hL hR hN => by omega
  | N + 1 => fun A L R C a m b w hb hp ha hm hbb hL hR hN h1 h2 h3 h4 => by
    rcases Nat.lt_or_ge 1 L.length with hl | hl
    · rcases Nat.lt_or_ge 1 R.length with hr | hr
      · exact symGenI it g off cap n N pre post l hlc hn (symAllI it g off cap n pre post l hlc hn N) A L R C a m b w hb hp ha hm hbb hl hr hN h1 h2 h3 h4
      · obtain ⟨y, rfl⟩ := List.length_eq_one_iff.1 (show R.length = 1 by omega)
        exact symRightI it g off cap n pre post l hlc A L C y a m b w hb (by simpa using hp) hn ha hm (by simpa using hbb) hl (h1 y (by simp)) (fun x hx => h2 x hx y (by simp)) h3
    · obtain ⟨x, rfl⟩ := List.length_eq_one_iff.1 (show L.length = 1 by omega)
      have hy : R.getD 0 0 ∈ R := getD_memN hR
      exact symLeftI it g off cap n pre post l hlc A R C x a m b w hb (by simpa using hp) hn ha (by simpa using hm) hbb (Nat.lt_trans (h2 x (by simp) _ hy) (h1 _ hy)) (fun y hy => ⟨h2 x (by simp) y hy, h1 y hy⟩) h4

set_option maxHeartbeats 4000000 in
set_option maxRecDepth 100000 in
theorem insNoneI (g off cap n a : Nat) (cb : Value) (w : World) (hn : a ≤ 1000000) :
    Calls Tryz.prog 128 #[.slice (some ⟨g, off, none⟩) n cap, .int .i64 a, .int .i64 a, cb] w fun e w' => e = .returned (.tuple #[]) ∧ w = w' := by
  go_enter Tryz.func128, Tryz.ntmps128
  go_wp2
  go_loopw [8] (fun iv wr => iv = .int .i64 (a + 1 : Nat) ∧ w = wr) (fun iv _ => 0)
  case atStart => exact ⟨by go_num, rfl⟩
  case round =>
    obtain ⟨rfl, rfl⟩ := hrel
    go_wp2
    go_end0
    exact ⟨rfl, rfl⟩

set_option maxHeartbeats 4000000 in
set_option maxRecDepth 100000 in
theorem insSomeI (it : List (Int × Int)) (g off cap n : Nat) (pre post : List Value) (l : List (List Int)) (hlc : l = lcl it) (A C : List Nat) (a b : Nat) (w : World) (hb : Rit0 it g off pre post (A ++ List.range' a (b - a) ++ C) w) (hp : A.length + (b - a) + C.length = n) (hn : n ≤ 1000000)
    (ha : a = A.length) (hab : a < b) (hl : b ≤ l.length) :
    Calls Tryz.prog 128 #[.slice (some ⟨g, off, none⟩) n cap, .int .i64 a, .int .i64 b, .func (.func 99) #[] #[]] w fun e w' => e = .returned (.tuple #[]) ∧
      ∃ M, M.Perm (List.range' a (b - a)) ∧ M.Pairwise (ilt l) ∧ Rit it g off pre post w (A ++ M ++ C) w' := by
  have HR := hid (Rit.refl hb)
  have HLC := hid hlc
  have hbn : b ≤ n := by omega
  have HA := hid (show a = A.length ∧ A.length + (b - a) + C.length = n ∧ b ≤ l.length from ⟨ha, hp, hl⟩)
  obtain ⟨i0, hi0, hz0, hz1, hz2⟩ := info_parts Tryz.infoItem
  clear hb hlc ha hp hl
  go_enter Tryz.func128, Tryz.ntmps128
  go_wp2
  go_loopw [8] (fun iv wr => ∃ (i : Nat) (S : List Nat), iv = .int .i64 i ∧ a < i ∧ i ≤ b ∧ Hid (S.Perm (List.range' a (i - a)) ∧ S.Pairwise (ilt l)) ∧ Hid (Rit it g off pre post w (A ++ S ++ (List.range' i (b - i) ++ C)) wr)) (fun iv _ => b - (intOf iv).toNat)
  case atStart =>
    refine ⟨a + 1, [a], by go_num, by omega, by omega, ⟨by rw [Nat.add_sub_cancel_left]; exact List.Perm.refl _, List.pairwise_singleton _ _⟩, ?_⟩
    have h := HR.out
    rw [show b - a = (b - (a + 1)) + 1 by omega, List.range'_succ] at h
    have h2 : Rit it g off pre post w (A ++ [a] ++ (List.range' (a + 1) (b - (a + 1)) ++ C)) w := by simpa using h
    exact h2
  case round =>
    obtain ⟨i, S, rfl, hai, hib, hS, hr⟩ := hrel
    by_cases hlt : i < b
    · have hSl : S.length = i - a := by have := hS.out.1.length_eq; simpa using this
      have hSm : ∀ y ∈ S, y < i := fun y hy => by
        have := hS.out.1.mem_iff.1 hy
        rw [List.mem_range'_1] at this
        omega
      obtain ⟨T, hT⟩ : ∃ T, T = List.range' (i + 1) (b - (i + 1)) ++ C := ⟨_, rfl⟩
      have HR1 : Hid (Rit it g off pre post w (shL A S T i S.length) wr) := hid (by
        rw [shL_full, hT]
        have h := hr.out
        rw [show b - i = (b - (i + 1)) + 1 by omega, List.range'_succ] at h
        simpa using h)
      have HT := hid (show T = List.range' (i + 1) (b - (i + 1)) ++ C ∧ A.length + S.length + 1 + T.length = n from ⟨hT, by rw [hT]; have := HA.out; simp; omega⟩)
      have HSM := hid hSm
      have HSL := hid hSl
      clear hT hSm hSl hr
      go_wp2
      go_loopw [9] (fun jv wi => ∃ (j c : Nat), jv = .int .i64 j ∧ a ≤ j ∧ j ≤ i ∧ Hid (j = a + c ∧ c ≤ S.length) ∧ Hid (c = S.length ∨ ilt l i (S.getD c 0)) ∧ Hid (Rit it g off pre post w (shL A S T i c) wi)) (fun jv _ => (intOf jv).toNat)
      case atStart => exact ⟨i, S.length, rfl, by omega, by omega, ⟨by have := HSL.out; omega, Nat.le_refl _⟩, .inl rfl, HR1.out⟩
      case round =>
        obtain ⟨j, c, rfl, haj, hji, hjc, hord, hr⟩ := hrel
        have HEND : Hid (c = 0 ∨ ilt l (S.getD (c - 1) 0) i → ∀ wz, Rit it g off pre post w (shL A S T i c) wz → ∃ (S' : List Nat), (S'.Perm (List.range' a (i + 1 - a)) ∧ S'.Pairwise (ilt l)) ∧ Rit it g off pre post w (A ++ S' ++ (List.range' (i + 1) (b - (i + 1)) ++ C)) wz) := hid fun h wz hz => by
          refine ⟨S.take c ++ i :: S.drop c, ⟨?_, pw_put hS.out.2 hjc.out.2 h hord.out⟩, ?_⟩
          · refine (put_perm S i c).trans ?_
            rw [show i + 1 - a = (i - a) + 1 by omega, List.range'_concat]
            refine (List.Perm.cons i hS.out.1).trans ?_
            rw [show a + 1 * (i - a) = i by omega]
            exact List.perm_append_comm (l₁ := [i]) (l₂ := List.range' a (i - a))
          · rw [← HT.out.1, ← shL_end]; exact hz
        by_cases hja : a < j
        · have hjg : decide ((j : Int) > (a : Int)) = true := decide_eq_true (by omega)
          obtain ⟨c, rfl⟩ : ∃ c', c = c' + 1 := ⟨c - 1, by have := hjc.out; omega⟩
          obtain ⟨j1, hj1⟩ : ∃ j1, j1 = j - 1 := ⟨_, rfl⟩
          have hcS : c < S.length := by have := hjc.out; omega
          have hst := shL_back (A := A) (L := S) (C := T) (y := i) (c := c) hcS
          have e1 : (shL A S T i (c + 1)).getD j 0 = i := shL_x (by omega) (by have := hjc.out; have := HA.out; omega)
          have e2 : (shL A S T i (c + 1)).getD j1 0 = S.getD c 0 := shL_y hcS (by have := hjc.out; have := HA.out; omega)
          rw [← HA.out.1, show a + c + 1 = j by have := hjc.out; omega, show a + c = j1 by have := hjc.out; omega] at hst
          have HST := hid hst
          have hpl : (shL A S T i (c + 1)).length = n := by rw [shL_len]; have := HT.out; omega
          obtain ⟨c1, c1'⟩ := hr.out.at (i := j) (by omega)
          obtain ⟨c2, c2'⟩ := hr.out.at (i := j1) (by omega)
          rw [e1] at c1 c1'
          rw [e2] at c2 c2'
          obtain ⟨y, hy⟩ : ∃ y, y = S.getD c 0 := ⟨_, rfl⟩
          rw [← hy] at c2 c2'
          have hyi : y < i := HSM.out y (by rw [hy]; exact getD_memN hcS)
          have HY := hid hy
          have HYI := hid hyi
          have HJL := hid (show j < (shL A S T i (c + 1)).length ∧ j1 < (shL A S T i (c + 1)).length ∧ (shL A S T i (c + 1)).getD j 0 = i ∧ (shL A S T i (c + 1)).getD j1 0 = y from ⟨by omega, by omega, e1, by rw [hy]; exact e2⟩)
          obtain ⟨xn, hxn⟩ : ∃ n, n = (it.getD i noIt).1 := ⟨_, rfl⟩
          obtain ⟨xc, hxc⟩ : ∃ n, n = (it.getD i noIt).2 := ⟨_, rfl⟩
          obtain ⟨yn, hyn⟩ : ∃ n, n = (it.getD y noIt).1 := ⟨_, rfl⟩
          obtain ⟨yc, hyc⟩ : ∃ n, n = (it.getD y noIt).2 := ⟨_, rfl⟩
          rw [← hyn] at c2
          rw [← hyc] at c2'
          rw [← hxn] at c1
          rw [← hxc] at c1'
          have hil : i < l.length := by have := HA.out; omega
          have HLT := hid (cmpI_lt HLC.out hyi hil hxc hyc)
          have HGE := hid (cmpI_ge HLC.out hyi hil hxc hyc)
          have HVV := hid (show xn = (it.getD i noIt).1 ∧ xc = (it.getD i noIt).2 ∧ yn = (it.getD y noIt).1 ∧ yc = (it.getD y noIt).2 from ⟨hxn, hxc, hyn, hyc⟩)
          have s1 := fun u : Later wr => u.cell c1
          have s1' := fun u : Later wr => u.cell c1'
          have s2 := fun u : Later wr => u.cell c2
          have s2' := fun u : Later wr => u.cell c2'
          have HCM := hid (fun u : Later wr => later_call (byClass xn xc yn yc u.w))
          clear hxn hxc hyn hyc c1 c1' c2 c2'
          have w6 : (j : Int) - 1 = (j1 : Int) := by omega
          have n1 : j ≠ j1 := by omega
          have n2 : j1 ≠ j := by omega
          have b1 : j < n := by omega
          have b2 : j1 < n := by omega
          have HJ1 := hid (show j = j1 + 1 by omega)
          have HCS := hid hcS
          clear hst hpl e1 e2 hy hyi hcS hj1 hil
          go_wp2_with (fail)
          refine region_later (by kernel_rfl) (by kernel_rfl) ?_
          repeat (go_big_quiet_step (first | (go_at_call 99; with_reducible exact HCM.out _)))
          refine wpQuiet_nil ?_
          intro _ hw'
          obtain ⟨u, hw''⟩ := hw'
          subst hw''
          have HRU := hid (hr.out.below u.below)
          clear s1 s1' s2 s2'
          generalize u.w = wk at HRU ⊢
          obtain ⟨z, hz⟩ : ∃ z, z = cmpI xc yc := ⟨_, rfl⟩
          rw [← hz] at HLT HGE ⊢
          clear hz
          by_cases he : z < 0
          · have HN : Hid (ilt l i (S.getD c 0)) := hid (by rw [← HY.out]; exact HLT.out.1 (by omega))
            obtain ⟨c1, c1'⟩ := HRU.out.at (i := j) HJL.out.1
            obtain ⟨c2, c2'⟩ := HRU.out.at (i := j1) HJL.out.2.1
            rw [HJL.out.2.2.1, ← HVV.out.1] at c1
            rw [HJL.out.2.2.1, ← HVV.out.2.1] at c1'
            rw [HJL.out.2.2.2, ← HVV.out.2.2.1] at c2
            rw [HJL.out.2.2.2, ← HVV.out.2.2.2] at c2'
            have f1 := HRU.out.ice (off + j * 2)
            have f1' := HRU.out.ice (off + j * 2 + 1)
            have f2 := HRU.out.ice (off + j1 * 2)
            have f2' := HRU.out.ice (off + j1 * 2 + 1)
            clear HEND hr
            go_wp2_with (fail)
            go_big_region
            all_goals go_wp2
            go_roundw
            case rel => exact ⟨j1, c, by first | rfl | go_num, by omega, by omega, ⟨by have := hjc.out; have := HJ1.out; omega, by have := HCS.out; omega⟩, .inr HN.out, by rw [← HST.out]; exact (HRU.out.swap j j1 HJL.out.1 HJL.out.2.1 (by rw [HJL.out.2.2.1]; exact HVV.out.1) (by rw [HJL.out.2.2.1]; exact HVV.out.2.1) (by rw [HJL.out.2.2.2]; exact HVV.out.2.2.1) (by rw [HJL.out.2.2.2]; exact HVV.out.2.2.2)).drewN 1⟩
            case measure => have := HJ1.out; simp [intOf]; omega
          · have HN : Hid (c + 1 = 0 ∨ ilt l (S.getD (c + 1 - 1) 0) i) := hid (.inr (by rw [Nat.add_sub_cancel, ← HY.out]; exact HGE.out.1 (by omega)))
            obtain ⟨S', hS', hR'⟩ := HEND.out HN.out _ HRU.out
            have HS2 := hid hS'
            have HR2 := hid hR'
            clear hS' hR' HEND
            go_wp2
            go_roundw
            case rel => exact ⟨i + 1, S', by go_num, by omega, by omega, HS2.out, HR2.out⟩
            case measure => simp [intOf]; omega
        · have hjg : decide ((j : Int) > (a : Int)) = false := decide_eq_false (by omega)
          obtain rfl : j = a := by omega
          obtain ⟨S', hS', hR'⟩ := HEND.out (.inl (by have := hjc.out; omega)) _ (hr.out.drewN 1)
          have HS2 := hid hS'
          have HR2 := hid hR'
          clear hS' hR' HEND
          go_wp2_with (fail)
          go_big_region
          all_goals go_wp2
          go_roundw
          case rel => exact ⟨i + 1, S', by go_num, by omega, by omega, HS2.out, HR2.out⟩
          case measure => simp [intOf]; omega
    · obtain rfl : i = b := by omega
      go_wp2
      go_end0
      refine ⟨rfl, S, hS.out.1, hS.out.2, ?_⟩
      have h := hr.out
      simpa using h
end Go.Proofs.YtidjjaginindoaaGreat

/-! ItS8 -/
namespace Go.Proofs.YtidjjaginindoaaGreat
open Go.RowKit

theorem insAnyI (it : List (Int × Int)) (g off cap n : Nat) (pre post : List Value) (l : List (List Int)) (hlc : l = lcl it) (A C : List Nat) (a b : Nat) (w : World) (hb : Rit0 it g off pre post (A ++ List.range' a (b - a) ++ C) w) (hp : A.length + (b - a) + C.length = n) (hn : n ≤ 1000000)
    (ha : a = A.length) (hab : a ≤ b) (hl : b ≤ l.length) :
    Calls Tryz.prog 128 #[.slice (some ⟨g, off, none⟩) n cap, .int .i64 a, .int .i64 b, .func (.func 99) #[] #[]] w fun e w' => e = .returned (.tuple #[]) ∧
      ∃ M, M.Perm (List.range' a (b - a)) ∧ M.Pairwise (ilt l) ∧ Rit it g off pre post w (A ++ M ++ C) w' := by
  rcases Nat.lt_or_ge a b with h | h
  · exact insSomeI it g off cap n pre post l hlc A C a b w hb hp hn ha h hl
  · obtain rfl : a = b := by omega
    refine (insNoneI g off cap n a _ w (by omega)).mono ?_
    rintro e w' ⟨rfl, rfl⟩
    refine ⟨rfl, [], by rw [Nat.sub_self]; exact List.Perm.refl _, List.Pairwise.nil, ?_⟩
    rw [Nat.sub_self] at hb
    exact Rit.refl hb
set_option maxHeartbeats 4000000 in
set_option maxRecDepth 100000 in
theorem stableItems (it : List (Int × Int)) (g off cap n : Nat) (pre post : List Value) (l : List (List Int)) (hlc : l = lcl it) (w : World) (hb : Rit0 it g off pre post (List.range' 0 n) w) (hn : n ≤ 1000000) (hl : n = l.length) :
    Calls Tryz.prog 115 #[.slice (some ⟨g, off, none⟩) n cap, .int .i64 n, .func (.func 99) #[] #[]] w fun e w' => e = .returned (.tuple #[]) ∧
      ∃ M, IsPl l n M ∧ Rit it g off pre post w M w' := by
  have HR := hid (Rit.refl hb)
  have HLC := hid hlc
  have HL := hid hl
  clear hb hlc hl
  go_enter Tryz.func115, Tryz.ntmps115
  go_wp2
  go_loopw [7, 8] (fun av bv wr => ∃ (a b : Nat) (A : List Nat), av = .int .i64 a ∧ bv = .int .i64 b ∧ a ≤ n ∧ Hid (b = a + 20 ∧ a = A.length ∧ Pre l 20 a A) ∧ b ≤ n + 20 ∧ Hid (Rit it g off pre post w (A ++ List.range' a (n - a)) wr)) (fun _ bv _ => n + 20 - (intOf bv).toNat)
  case atStart => exact ⟨0, 20, [], rfl, rfl, by omega, ⟨rfl, rfl, Pre.nil _ _⟩, by omega, by rw [List.nil_append, Nat.sub_zero]; exact HR.out⟩
  case round =>
    obtain ⟨a, b, A, rfl, rfl, ha, hab, hbn, hr⟩ := hrel
    by_cases hlt : b ≤ n
    · have HBX : Hid (Rit0 it g off pre post (A ++ List.range' a (b - a) ++ List.range' b (n - b)) wr) := hid (by
        have h := hr.out.1
        rw [show n - a = (b - a) + (n - b) by have := hab.out; omega, ← List.range'_append_1, show a + (b - a) = b by have := hab.out; omega, ← List.append_assoc] at h
        exact h)
      go_wp2_with (go_at_call 128; refine (insSomeI it g off cap n pre post l HLC.out A (List.range' b (n - b)) a b wr HBX.out (by have := hab.out; simp only [List.length_range']; omega) (by omega) hab.out.2.1 (by have := hab.out; omega) (by have := HL.out; omega)).mono ?_; rintro e5 w5 ⟨rfl, M, hp5, hs5, hr5⟩; have HP5 := hid hp5; have HS5 := hid hs5; have HR5 := hid (hr.out.trans hr5); clear hp5 hs5 hr5)
      have HM : Hid (M.length = 20) := hid (by have := HP5.out.length_eq; have := hab.out; simp only [List.length_range'] at *; omega)
      go_roundw
      case rel => exact ⟨b, b + 20, A ++ M, rfl, by first | rfl | go_num, hlt, ⟨rfl, by have := hab.out; have := HM.out; simp only [List.length_append]; omega, by have h := hab.out.2.2.next HM.out (by have := HP5.out; rwa [show b - a = M.length by have := hab.out; have := HM.out; omega] at this) HS5.out; rwa [← hab.out.1] at h⟩, by omega, HR5.out⟩
      case measure => simp [intOf]; omega
    · have HBX : Hid (Rit0 it g off pre post (A ++ List.range' a (n - a) ++ []) wr) := hid (by rw [List.append_nil]; exact hr.out.1)
      go_wp2_with (go_at_call 128; refine (insAnyI it g off cap n pre post l HLC.out A [] a n wr HBX.out (by have := hab.out; simp only [List.length_nil]; omega) (by omega) hab.out.2.1 ha (by have := HL.out; omega)).mono ?_; rintro e5 w5 ⟨rfl, M, hp5, hs5, hr5⟩; have HP5 := hid hp5; have HS5 := hid hs5; have HR5 := hid (hr.out.trans hr5); clear hp5 hs5 hr5)
      have HB0 : Hid (Blks l 20 0 (A ++ M) ∧ (A ++ M).length = n) := hid (by
        have h := perm_seg HP5.out
        refine ⟨hab.out.2.2 _ (.last a M (by have := hab.out; omega) h.2 HS5.out), by have := hab.out; rw [List.length_append]; omega⟩)
      have HR6 : Hid (Rit it g off pre post w (A ++ M) w5) := hid (by have := HR5.out; rwa [List.append_nil] at this)
      clear HBX HR HP5 HS5 HR5
      go_loopw [6] (fun sv wr => ∃ (bs : Nat) (p : List Nat), sv = .int .i64 bs ∧ 20 ≤ bs ∧ bs ≤ 2 * n + 20 ∧ Hid (Blks l bs 0 p ∧ p.length = n) ∧ Hid (Rit it g off pre post w p wr)) (fun sv _ => 2 * n + 20 - (intOf sv).toNat)
      case atStart => exact ⟨20, A ++ M, rfl, by omega, by omega, HB0.out, HR6.out⟩
      case round =>
        clear hr hab HB0 HR6 ha hbn hlt
        obtain ⟨bs, p, rfl, h20, h2n, hbl, hr⟩ := hrel
        by_cases hlt : bs < n
        · obtain ⟨b2, hb2⟩ : ∃ b2, b2 = 2 * bs := ⟨_, rfl⟩
          have w2 : (2 : Int) * (bs : Int) = (b2 : Int) := by omega
          have w3 : (bs : Int) * 2 = (b2 : Int) := by omega
          have hb2n : b2 ≤ 2 * n := by omega
          have HB2 := hid hb2
          clear hb2
          go_wp2_with (fail)
          go_loopw [7, 8] (fun av bv wr => ∃ (a b : Nat) (A q : List Nat), av = .int .i64 a ∧ bv = .int .i64 b ∧ a ≤ n ∧ b ≤ n + b2 ∧ a ≤ b ∧ Hid (b = a + b2 ∧ a = A.length ∧ A.length + q.length = n ∧ Pre l b2 a A ∧ Blks l bs a q) ∧ Hid (Rit it g off pre post w (A ++ q) wr)) (fun _ bv _ => n + b2 - (intOf bv).toNat)
          case atStart => exact ⟨0, b2, [], p, rfl, rfl, by omega, by omega, by omega, ⟨by omega, rfl, by simpa using hbl.out.2, Pre.nil _ _, hbl.out.1⟩, by rw [List.nil_append]; exact hr.out⟩
          case round =>
            clear hr hbl
            obtain ⟨a, b, A, q, rfl, rfl, han, hbn2, hab', hab, hr⟩ := hrel
            obtain ⟨m, hm⟩ : ∃ m, m = a + bs := ⟨_, rfl⟩
            have w4 : (a : Int) + (bs : Int) = (m : Int) := by omega
            by_cases hltb : b ≤ n
            · have hcut : ∃ M1 M2 q', q = M1 ++ (M2 ++ q') ∧ (M1.length = bs ∧ M2.length = bs) ∧ (M1.Perm (List.range' a M1.length) ∧ M2.Perm (List.range' m M2.length)) ∧ (M1.Pairwise (ilt l) ∧ M2.Pairwise (ilt l)) ∧ Blks l bs (a + b2) q' := by
                obtain ⟨M1, q1, rfl, h1, h2, h3, h4⟩ := hab.out.2.2.2.2.cut (by have := hab.out; have := HB2.out; omega)
                obtain ⟨M2, q2, rfl, k1, k2, k3, k4⟩ := h4.cut (by have h9 := hab.out.2.2.1; have := hab.out.1; have := hab.out.2.1; have := HB2.out; rw [List.length_append] at h9; omega)
                exact ⟨M1, M2, q2, rfl, ⟨h1, k1⟩, ⟨h2, by rw [hm]; exact k2⟩, ⟨h3, k3⟩, by rw [show a + b2 = a + bs + bs by have := HB2.out; omega]; exact k4⟩
              obtain ⟨M1, M2, q', rfl, hML, hMP, hMS, hMq⟩ := hcut
              have hlow : ∀ x ∈ M1, ∀ y ∈ M2, x < y := fun x hx y hy => by
                have h1 := perm_lt hMP.1 hx
                have h2 := perm_lt hMP.2 hy
                omega
              have htop : ∀ y ∈ M2, y < l.length := fun y hy => by
                have h2 := perm_lt hMP.2 hy
                have := hab.out
                have := HL.out
                have := HB2.out
                omega
              have HLOW := hid hlow
              have HTOP := hid htop
              have HML := hid hML
              have HMP := hid hMP
              have HMS := hid hMS
              have HMQ := hid hMq
              have HM := hid hm
              have HLEN := hid (show A.length + bs + bs + q'.length = n by have h9 := hab.out.2.2.1; simp only [List.length_append] at h9; omega)
              have HBX : Hid (Rit0 it g off pre post (A ++ M1 ++ M2 ++ q') wr) := hid (by have h := hr.out.1; simpa using h)
              clear hlow htop hML hMP hMS hMq hm
              go_wp2_with (go_at_call 129; refine (symAllI it g off cap n pre post l HLC.out (by omega) n A M1 M2 q' a m b wr HBX.out (by have := HML.out; have := HLEN.out; omega) hab.out.2.1 (by have := HML.out; have := HM.out; omega) (by have := HML.out; have := HM.out; have := hab.out.1; have := HB2.out; omega) (by have := HML.out; omega) (by have := HML.out; omega) (by have := HML.out; have := HLEN.out; omega) HTOP.out HLOW.out HMS.out.1 HMS.out.2).mono ?_; rintro e5 w5 ⟨rfl, M, hp5, hs5, hr5⟩; have HP5 := hid hp5; have HS5 := hid hs5; have HR5 := hid (hr.out.trans hr5); clear hp5 hs5 hr5)
              have HMM : Hid (M.length = b2 ∧ M.Perm (List.range' a M.length)) := hid ⟨by have h9 := HP5.out.length_eq; rw [List.length_append] at h9; have := HML.out; have := HB2.out; omega, perm_two HP5.out HMP.out.1 (by rw [show a + M1.length = m by have := HML.out; have := HM.out; omega]; exact HMP.out.2)⟩
              go_roundw
              case rel => exact ⟨b, b + b2, A ++ M, q', rfl, by first | rfl | go_num, hltb, by omega, by omega, ⟨rfl, by rw [List.length_append]; have := hab.out.1; have := hab.out.2.1; have := HMM.out.1; omega, by rw [List.length_append]; have := HMM.out.1; have := HLEN.out; have := HB2.out; omega, by have h := hab.out.2.2.2.1.next HMM.out.1 HMM.out.2 HS5.out; rwa [← hab.out.1] at h, by rw [hab.out.1]; exact HMQ.out⟩, HR5.out⟩
              case measure => simp [intOf]; omega
            · by_cases hmn : m < n
              · have hcut : ∃ M1 M2, q = M1 ++ M2 ∧ (M1.length = bs ∧ M2.length = n - m) ∧ (M1.Perm (List.range' a M1.length) ∧ M2.Perm (List.range' m M2.length)) ∧ (M1.Pairwise (ilt l) ∧ M2.Pairwise (ilt l)) := by
                  obtain ⟨M1, q1, rfl, h1, h2, h3, h4⟩ := hab.out.2.2.2.2.cut (by have := hab.out; omega)
                  have hq1 : q1.length = n - m := by have h9 := hab.out.2.2.1; rw [List.length_append] at h9; have := hab.out.2.1; omega
                  have h5 := h4.one (by have := hab.out.1; have := HB2.out; omega)
                  exact ⟨M1, q1, rfl, ⟨h1, hq1⟩, ⟨h2, by rw [hm]; exact h5.1⟩, ⟨h3, h5.2⟩⟩
                obtain ⟨M1, M2, rfl, hML, hMP, hMS⟩ := hcut
                have hlow : ∀ x ∈ M1, ∀ y ∈ M2, x < y := fun x hx y hy => by
                  have h1 := perm_lt hMP.1 hx
                  have h2 := perm_lt hMP.2 hy
                  omega
                have htop : ∀ y ∈ M2, y < l.length := fun y hy => by
                  have h2 := perm_lt hMP.2 hy
                  have := HL.out
                  omega
                have HLOW := hid hlow
                have HTOP := hid htop
                have HML := hid hML
                have HMP := hid hMP
                have HMS := hid hMS
                have HM := hid hm
                have HLEN := hid (show A.length + bs + (n - m) = n by have h9 := hab.out.2.2.1; simp only [List.length_append] at h9; omega)
                have HBX : Hid (Rit0 it g off pre post (A ++ M1 ++ M2 ++ []) wr) := hid (by have h := hr.out.1; simpa using h)
                clear hlow htop hML hMP hMS hm
                go_wp2_with (go_at_call 129; refine (symAllI it g off cap n pre post l HLC.out (by omega) n A M1 M2 [] a m n wr HBX.out (by have := HML.out; have := HLEN.out; simp only [List.length_nil]; omega) hab.out.2.1 (by have := HML.out; have := HM.out; omega) (by have := HML.out; omega) (by have := HML.out; omega) (by have := HML.out; omega) (by have := HML.out; have := HLEN.out; omega) HTOP.out HLOW.out HMS.out.1 HMS.out.2).mono ?_; rintro e5 w5 ⟨rfl, M, hp5, hs5, hr5⟩; have HP5 := hid hp5; have HS5 := hid hs5; have HR5 := hid (hr.out.trans hr5); clear hp5 hs5 hr5)
                have HMM : Hid (M.length + a = n ∧ M.Perm (List.range' a M.length)) := hid ⟨by have h9 := HP5.out.length_eq; rw [List.length_append] at h9; have := HML.out; have := HM.out; omega, perm_two HP5.out HMP.out.1 (by rw [show a + M1.length = m by have := HML.out; have := HM.out; omega]; exact HMP.out.2)⟩
                go_roundw
                case rel => exact ⟨b2, A ++ M, rfl, by have := HB2.out; omega, by omega, ⟨hab.out.2.2.2.1 _ (.last a M (by have := HMM.out.1; have := hab.out.1; omega) HMM.out.2 HS5.out), by rw [List.length_append]; have := HMM.out.1; have := hab.out.2.1; omega⟩, by have := HR5.out; rwa [List.append_nil] at this⟩
                case measure => have := HB2.out; simp [intOf]; omega
              · have h5 := hab.out.2.2.2.2.one (by have := hab.out; omega)
                have HQ := hid h5
                have HM := hid hm
                clear h5 hm
                go_wp2
                go_roundw
                case rel => exact ⟨b2, A ++ q, rfl, by have := HB2.out; omega, by omega, ⟨hab.out.2.2.2.1 _ (.last a q (by have := hab.out; have := HM.out; have := HB2.out; omega) HQ.out.1 HQ.out.2), by rw [List.length_append]; exact hab.out.2.2.1⟩, hr.out⟩
                case measure => have := HB2.out; simp [intOf]; omega
        · have h5 := hbl.out.1.one (by have := hbl.out.2; omega)
          rw [hbl.out.2, ← List.range_eq_range'] at h5
          have HQ := hid h5
          clear h5
          go_wp2
          go_end0
          exact ⟨rfl, p, HQ.out, hr.out⟩
end Go.Proofs.YtidjjaginindoaaGreat

/-! Ord9a -/
namespace Go.Proofs.YtidjjaginindoaaGreat
open Go.RowKit

/-- numbers with their classes, as cells -/
def tcv : List Int → List Value
  | [] => []
  | c :: s => .int .i64 c :: .int .i64 (classS c) :: tcv s
theorem tcv_len : ∀ s : List Int, (tcv s).length = s.length * 2
  | [] => rfl
  | c :: s => by rw [tcv, List.length_cons, List.length_cons, tcv_len s, List.length_cons]; omega
theorem tcv_app : ∀ s t : List Int, tcv (s ++ t) = tcv s ++ tcv t
  | [], _ => rfl
  | c :: s, t => by rw [List.cons_append, tcv, tcv, tcv_app s t]; rfl
theorem tcv_at : ∀ {s : List Int} {i : Nat}, i < s.length → (tcv s)[i * 2]? = some (.int .i64 (s.getD i 0)) ∧ (tcv s)[i * 2 + 1]? = some (.int .i64 (classS (s.getD i 0)))
  | [], _, h => by simp at h
  | c :: s, 0, _ => by simp [tcv]
  | c :: s, i + 1, h => by
    have ih := tcv_at (s := s) (i := i) (by simpa using h)
    rw [tcv, show (i + 1) * 2 = i * 2 + 2 by omega]
    simpa using ih
def tag (s : List Int) : List (Int × Int) := s.map fun c => (c, classS c)
theorem icv_tag (s : List Int) : ∀ {M : List Nat}, (∀ k ∈ M, k < s.length) → icv (tag s) M = tcv (M.map fun k => s.getD k 0)
  | [], _ => rfl
  | k :: M, h => by
    have hk := h k (by simp)
    have e : (tag s).getD k noIt = (s.getD k 0, classS (s.getD k 0)) := by
      simp [tag, List.getD_eq_getElem?_getD, List.getElem?_eq_getElem hk]
    rw [icv, icv_tag s (fun j hj => h j (List.mem_cons_of_mem _ hj)), e]
    rfl
theorem icv_all (s : List Int) : icv (tag s) (List.range' 0 s.length) = tcv s := by
  rw [icv_tag s fun k hk => by rw [List.mem_range'_1] at hk; omega]
  congr 1
  refine List.ext_getElem (by simp) fun i h1 h2 => ?_
  simp [List.getD_eq_getElem?_getD]
  rw [List.getElem?_eq_getElem h2]
  rfl
/-- how many marks stand at the beginning -/
def cntM (s : List Int) : Nat := (s.takeWhile fun c => classS c != 0).length
theorem cntM_hit : ∀ {s : List Int} {k : Nat}, k < s.length → (∀ i, i < k → classS (s.getD i 0) ≠ 0) → classS (s.getD k 0) = 0 → cntM s = k
  | [], _, h, _, _ => by simp at h
  | c :: s, 0, _, _, h => by
    have h : classS c = 0 := by simpa using h
    simp [cntM, h]
  | c :: s, k + 1, hk, ha, h => by
    have h0 : classS c ≠ 0 := by simpa using ha 0 (by omega)
    have ih := cntM_hit (s := s) (k := k) (by simpa using hk) (fun i hi => by simpa using ha (i + 1) (by omega)) (by simpa using h)
    unfold cntM at ih ⊢
    rw [List.takeWhile_cons, if_pos (by simpa using h0), List.length_cons, ih]
theorem cntM_none : ∀ {s : List Int}, (∀ i, i < s.length → classS (s.getD i 0) ≠ 0) → cntM s = s.length
  | [], _ => rfl
  | c :: s, ha => by
    have h0 : classS c ≠ 0 := by simpa using ha 0 (by simp)
    have ih := cntM_none (s := s) (fun i hi => by simpa using ha (i + 1) (by simpa using hi))
    unfold cntM at ih ⊢
    rw [List.takeWhile_cons, if_pos (by simpa using h0), List.length_cons, ih, List.length_cons]

/-- numbers with their classes lie in block g from cell off on -/
def Tagd (s : List Int) (g off : Nat) (w : World) : Prop := g < w.heap.size ∧ ∀ i, i < s.length → w.cell? ⟨g, off + i * 2, none⟩ = some (.int .i64 (s.getD i 0)) ∧ w.cell? ⟨g, off + i * 2 + 1, none⟩ = some (.int .i64 (classS (s.getD i 0)))
theorem Tagd.of {A s B : List Int} {g : Nat} {w : World} (h : Box 119 (tcv (A ++ s ++ B)) g w) : Tagd s g (A.length * 2) w := by
  refine ⟨h.lt, fun i hi => ?_⟩
  have hl := tcv_len A
  have a := tcv_at hi
  rw [List.append_assoc, tcv_app, tcv_app] at h
  have hs := tcv_len s
  constructor
  · rw [h.cell, List.getElem?_append_right (by omega), List.getElem?_append_left (by omega), show A.length * 2 + i * 2 - (tcv A).length = i * 2 by omega]
    exact a.1
  · rw [h.cell, List.getElem?_append_right (by omega), List.getElem?_append_left (by omega), show A.length * 2 + i * 2 + 1 - (tcv A).length = i * 2 + 1 by omega]
    exact a.2

set_option maxHeartbeats 1000000 in
theorem markRule (n c : Int) (w : World) : Calls Tryz.prog 114 #[.agg #[.int .i64 n, .int .i64 c]] w fun e w' => e = .returned (.bool (c == 0)) ∧ Below w.heap.size w w' := by
  obtain ⟨i0, hi0, hz0, hz1, hz2⟩ := info_parts Tryz.infoItem
  obtain ⟨b, hb⟩ : ∃ b, b = (c == 0) := ⟨_, rfl⟩
  have hb2 : (c == 0) = b := hb.symm
  rw [← hb]
  clear hb
  go_enter Tryz.func114, Tryz.ntmps114
  go_wp2_with (fail)
  go_ret
  exact ⟨rfl, by (repeat (first | exact Below.refl _ _ | exact below_drewN _ | refine Below.drew ?_ | refine Below.alloc ?_ (by simp) _ | refine Below.setCell ?_ (by simp) _ | refine below_drewN' ?_ _))⟩

set_option maxHeartbeats 2000000 in
theorem indexMarks (s : List Int) (g off n cap : Nat) (w : World) (h : Tagd s g off w) (hn : n = s.length) (hm : n ≤ 1000000) :
    Calls Tryz.prog 113 #[.slice (some ⟨g, off, none⟩) n cap, .func (.func 114) #[] #[]] w fun e w' => e = .returned (.int .i64 (if cntM s = n then -1 else (cntM s : Int))) ∧ Below w.heap.size w w' := by
  obtain ⟨i0, hi0, hz0, hz1, hz2⟩ := info_parts Tryz.infoItem
  obtain ⟨R, hR⟩ : ∃ R : Int, R = if cntM s = n then -1 else (cntM s : Int) := ⟨_, rfl⟩
  have hH : ∀ k, k < n → (∀ i, i < k → classS (s.getD i 0) ≠ 0) → classS (s.getD k 0) = 0 → R = (k : Int) := fun k hk ha h0 => by
    rw [hR, cntM_hit (by omega) ha h0, if_neg (by omega)]
  have hN : (∀ i, i < n → classS (s.getD i 0) ≠ 0) → R = -1 := fun ha => by
    rw [hR, cntM_none (by rw [← hn]; exact ha), if_pos hn.symm]
  rw [← hR]
  have HH := hid hH
  have HN := hid hN
  have H1 := hid h
  have HNL := hid hn
  clear hH hN h hR hn
  go_enter Tryz.func113, Tryz.ntmps113
  go_wp2_with (fail)
  go_loopw [8] (fun iv wr => ∃ k : Nat, k ≤ n ∧ iv = .int .i64 k ∧ Hid (Below w.heap.size w wr) ∧ Hid (∀ i, i < k → classS (s.getD i 0) ≠ 0)) (fun iv _ => n - (intOf iv).toNat)
  case atStart => exact ⟨0, by omega, rfl, Below.refl _ _, fun i hi => absurd hi (by omega)⟩
  case round =>
    obtain ⟨k, hk, rfl, hbel, hall⟩ := hrel
    by_cases hlt : k < n
    · obtain ⟨d1, d2⟩ := H1.out.2 k (by have := HNL.out; omega)
      have d1 := (hbel.out.cell (p := ⟨g, off + k * 2, none⟩) H1.out.1).trans d1
      have d2 := (hbel.out.cell (p := ⟨g, off + k * 2 + 1, none⟩) H1.out.1).trans d2
      have hh := hid (HH.out k hlt hall.out)
      have HNX := hid (show classS (s.getD k 0) ≠ 0 → ∀ i, i < k + 1 → classS (s.getD i 0) ≠ 0 from fun he i hi => by
        rcases Nat.lt_or_ge i k with h | h
        · exact hall.out i h
        · obtain rfl : i = k := by omega
          exact he)
      generalize classS (s.getD k 0) = c at d2 hh HNX
      generalize s.getD k 0 = x at d1
      obtain ⟨b, hb⟩ : ∃ b, b = (c == 0) := ⟨_, rfl⟩
      have HC := hid (markRule x c wr)
      rw [← hb] at HC
      cases b with
      | true =>
        have hr := hid (hh.out (by simpa using hb.symm))
        clear hb
        go_wp2_with (go_at_call 114; refine HC.out.mono ?_; rintro e wu ⟨rfl, hbu⟩; have HBU := hid (hbel.out.trans (hbu.mono hbel.out.size)); clear hbu)
        go_ret
        exact ⟨by rw [hr.out]; rfl, HBU.out⟩
      | false =>
        have hr := hid (HNX.out (by simpa using hb.symm))
        clear hb
        go_wp2_with (go_at_call 114; refine HC.out.mono ?_; rintro e wu ⟨rfl, hbu⟩; have HBU := hid (hbel.out.trans (hbu.mono hbel.out.size)); clear hbu)
        go_roundw
        case rel => exact ⟨k + 1, by omega, by go_num, HBU.out, hr.out⟩
        case measure => simp [intOf]; omega
    · obtain rfl : k = n := by omega
      have hr := hid (HN.out hall.out)
      go_wp2_with (fail)
      go_ret
      exact ⟨by rw [hr.out]; rfl, hbel.out⟩

set_option maxHeartbeats 1000000 in
theorem countMarks (s : List Int) (g off n cap : Nat) (w : World) (h : Tagd s g off w) (hn : n = s.length) (hm : n ≤ 1000000) :
    Calls Tryz.prog 97 #[.slice (some ⟨g, off, none⟩) n cap] w fun e w' => e = .returned (.int .i64 (cntM s)) ∧ Below w.heap.size w w' := by
  obtain ⟨m, hmm⟩ : ∃ m, m = cntM s := ⟨_, rfl⟩
  have hle : m ≤ n := by rw [hmm, hn]; exact (List.takeWhile_sublist _).length_le
  have HX := hid (indexMarks s g off n cap w h hn hm)
  rw [← hmm] at HX ⊢
  clear hmm h hn
  go_enter Tryz.func97, Tryz.ntmps97
  by_cases he : m = n
  · subst he
    have HX2 : Hid (Calls Tryz.prog 113 #[.slice (some ⟨g, off, none⟩) m cap, .func (.func 114) #[] #[]] w fun e w' => e = .returned (.int .i64 (-1)) ∧ Below w.heap.size w w') := hid (by have := HX.out; rwa [if_pos rfl] at this)
    go_wp2_with (go_at_call 113; refine HX2.out.mono ?_; rintro e w1 ⟨rfl, hb1⟩; have HB1 := hid hb1; clear hb1)
    go_ret
    exact ⟨rfl, HB1.out⟩
  · have HX2 : Hid (Calls Tryz.prog 113 #[.slice (some ⟨g, off, none⟩) n cap, .func (.func 114) #[] #[]] w fun e w' => e = .returned (.int .i64 (m : Int)) ∧ Below w.heap.size w w') := hid (by have := HX.out; rwa [if_neg he] at this)
    have hm0 : ¬ ((m : Int) < 0) := by omega
    go_wp2_with (go_at_call 113; refine HX2.out.mono ?_; rintro e w1 ⟨rfl, hb1⟩; have HB1 := hid hb1; clear hb1)
    go_ret
    exact ⟨rfl, HB1.out⟩

theorem sortFunc (it : List (Int × Int)) (g off cap n : Nat) (pre post : List Value) (w : World) (hb : Rit0 it g off pre post (List.range' 0 n) w) (hn : n ≤ 1000000) (hl : n = it.length) :
    Calls Tryz.prog 98 #[.slice (some ⟨g, off, none⟩) n cap, .func (.func 99) #[] #[]] w fun e w' => e = .returned (.tuple #[]) ∧
      ∃ M, IsPl (lcl it) n M ∧ Rit it g off pre post w M w' := by
  have HB := hid hb
  have HL := hid (show n = (lcl it).length by rw [lcl_len]; exact hl)
  clear hb hl
  go_enter Tryz.func98, Tryz.ntmps98
  go_wp2_with (go_at_call 115; refine (stableItems it g off cap n pre post (lcl it) rfl w HB.out hn HL.out).mono ?_; rintro e w' ⟨rfl, M, hm, hr⟩; have HM := hid hm; have HR := hid hr; clear hm hr)
  go_end0
  exact ⟨rfl, M, HM.out, HR.out⟩
theorem sortRun (A R B : List Int) (g off n cap : Nat) (w : World) (hb : Box 119 (tcv (A ++ R ++ B)) g w) (hn : R.length = n) (hm : n ≤ 1000000) (ho : off = A.length * 2) (hz : ∀ c ∈ R, classS c ≠ 0) :
    Calls Tryz.prog 98 #[.slice (some ⟨g, off, none⟩) n cap, .func (.func 99) #[] #[]] w fun e w' => e = .returned (.tuple #[]) ∧
      Box 119 (tcv (A ++ putO classS R ++ B)) g w' ∧ w.grownBy w' (some g) := by
  subst hn ho
  refine (sortFunc (tag R) g (A.length * 2) cap R.length (tcv A) (tcv B) w ⟨by rw [icv_all, ← tcv_app, ← tcv_app]; exact hb, (tcv_len A).symm⟩ hm (by simp [tag])).mono ?_
  rintro e w' ⟨rfl, M, hM, hr⟩
  refine ⟨rfl, ?_, hr.2⟩
  have h1 := hr.1.1
  rw [icv_tag R fun k hk => hM.lt hk, place_marks (cl := classS) rfl hM class_pos hz, ← tcv_app, ← tcv_app] at h1
  exact h1
end Go.Proofs.YtidjjaginindoaaGreat
