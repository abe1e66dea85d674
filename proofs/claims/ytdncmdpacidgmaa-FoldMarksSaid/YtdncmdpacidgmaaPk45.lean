/- Several texts in one: ItS6. -/
import Derived.Test.YtdncmdpacidgmaaPk44
import Derived.Test.YtdncmdpacidgmaaPk43
/-! ItS6 -/
namespace Go.Proofs.Ytdncmdpacidgmaa
open Go.RowKit

def SymAtI (it : List (Int × Int)) (g off cap n N : Nat) (pre post : List Value) (l : List (List Int)) : Prop := ∀ (A L R C : List Nat) (a m b : Nat) (w : World), Rit0 it g off pre post (A ++ L ++ R ++ C) w → A.length + L.length + R.length + C.length = n →
  a = A.length → m = a + L.length → b = m + R.length → 0 < L.length → 0 < R.length → L.length + R.length ≤ N → (∀ y ∈ R, y < l.length) → (∀ x ∈ L, ∀ y ∈ R, x < y) → L.Pairwise (ilt l) → R.Pairwise (ilt l) →
  Calls Try.prog 80 #[.slice (some ⟨g, off, none⟩) n cap, .int .i64 a, .int .i64 m, .int .i64 b, .func (.func 60) #[] #[]] w fun e w' => e = .returned (.tuple #[]) ∧
    ∃ M, M.Perm (L ++ R) ∧ M.Pairwise (ilt l) ∧ Rit it g off pre post w (A ++ M ++ C) w'

set_option maxHeartbeats 8000000 in
set_option maxRecDepth 100000 in
theorem symGenI (it : List (Int × Int)) (g off cap n N : Nat) (pre post : List Value) (l : List (List Int)) (hlc : l = lcl it) (hn : n ≤ 1000000) (ih : SymAtI it g off cap n N pre post l) (A L R C : List Nat) (a m b : Nat) (w : World) (hb : Rit0 it g off pre post (A ++ L ++ R ++ C) w) (hp : A.length + L.length + R.length + C.length = n)
    (ha : a = A.length) (hm : m = a + L.length) (hbb : b = m + R.length) (hL1 : 1 < L.length) (hR1 : 1 < R.length) (hN : L.length + R.length ≤ N + 1) (hR : ∀ y ∈ R, y < l.length) (hLR : ∀ x ∈ L, ∀ y ∈ R, x < y) (hsL : L.Pairwise (ilt l)) (hsR : R.Pairwise (ilt l)) :
    Calls Try.prog 80 #[.slice (some ⟨g, off, none⟩) n cap, .int .i64 a, .int .i64 m, .int .i64 b, .func (.func 60) #[] #[]] w fun e w' => e = .returned (.tuple #[]) ∧
      ∃ M, M.Perm (L ++ R) ∧ M.Pairwise (ilt l) ∧ Rit it g off pre post w (A ++ M ++ C) w' := by
  have HR := hid (Rit.refl hb)
  have HLC := hid hlc
  have IH := hid ih
  have hbn : b ≤ n := by omega
  obtain ⟨dl, hdl⟩ : ∃ dl, dl = L.length := ⟨_, rfl⟩
  obtain ⟨dr, hdr⟩ : ∃ dr, dr = R.length := ⟨_, rfl⟩
  obtain ⟨mid, hmid⟩ : ∃ mid, mid = (a + b) / 2 := ⟨_, rfl⟩
  obtain ⟨nn, hnn⟩ : ∃ nn, nn = mid + m := ⟨_, rfl⟩
  obtain ⟨p1, hp1⟩ : ∃ p1, p1 = nn - 1 := ⟨_, rfl⟩
  have HA := hid (show a = A.length ∧ m = a + L.length ∧ b = m + R.length ∧ 1 < L.length ∧ 1 < R.length ∧ L.length + R.length ≤ N + 1 ∧ A.length + L.length + R.length + C.length = n by omega)
  have HM := hid (show mid = (a + b) / 2 ∧ nn = mid + m ∧ p1 + 1 = nn by omega)
  have HRR := hid hR
  have HLR := hid hLR
  have HSL := hid hsL
  have HSR := hid hsR
  have w1 : (m : Int) - (a : Int) = (dl : Int) := by omega
  have w1' : ((dl : Int) == 1) = false := by simp; omega
  have w0 : (b : Int) - (m : Int) = (dr : Int) := by omega
  have w0' : ((dr : Int) == 1) = false := by simp; omega
  have wm : ((a : Int) + (b : Int)) / 2 = (mid : Int) := by omega
  have wn : (mid : Int) + (m : Int) = (nn : Int) := by omega
  have wp : (nn : Int) - 1 = (p1 : Int) := by omega
  have ham : a ≤ m := by omega
  have hmb : m < b := by omega
  have hmdb : mid ≤ b := by omega
  obtain ⟨i0, hi0, hz0, hz1, hz2⟩ := info_parts Try.infoItem
  clear hb hlc ih ha hm hbb hp hR hLR hsL hsR hL1 hR1 hdl hdr hmid hnn hp1 hN
  go_enter Try.func80, Try.ntmps80
  go_upto_if 140 with (fail)
  go_cut [20, 21] from 141 to 146 (fun sv rv wx => ∃ s0 r0 : Nat, sv = .int .i64 s0 ∧ rv = .int .i64 r0 ∧ Hid ((mid < m ∧ s0 + b = nn ∧ r0 = mid) ∨ (m ≤ mid ∧ s0 = a ∧ r0 = m)) ∧ w = wx)
  case first =>
    rcases Nat.lt_or_ge mid m with hmm | hmm
    · obtain ⟨s0, hs0⟩ : ∃ s0, s0 = nn - b := ⟨_, rfl⟩
      have hs0' : s0 + b = nn := by have := HM.out; omega
      have ws : (nn : Int) - (b : Int) = (s0 : Int) := by omega
      have HS0 := hid hs0'
      clear hs0 hs0'
      go_wp2_with (fail)
      go_meet
      case rel => exact ⟨s0, mid, rfl, rfl, .inl ⟨hmm, HS0.out, rfl⟩, rfl⟩
    · go_wp2_with (fail)
      go_meet
      case rel => exact ⟨a, m, rfl, rfl, .inr ⟨hmm, rfl, rfl⟩, rfl⟩
  case rest =>
    obtain ⟨s0, r0, rfl, rfl, hlo, rfl⟩ := hcut
    go_wp2_with (fail)
    go_loopw [20, 21] (fun sv rv wr => ∃ (s r : Nat), sv = .int .i64 s ∧ rv = .int .i64 r ∧ Hid (Rit it g off pre post w (A ++ L ++ R ++ C) wr) ∧ s0 ≤ s ∧ s ≤ r ∧ r ≤ r0 ∧ Hid (s = s0 ∨ ilt l (L.getD (s - 1 - a) 0) (R.getD (nn - 1 - (s - 1) - m) 0)) ∧ Hid (r = r0 ∨ ilt l (R.getD (nn - 1 - r - m) 0) (L.getD (r - a) 0))) (fun sv rv _ => (intOf rv).toNat - (intOf sv).toNat)
    case atStart => exact ⟨s0, r0, rfl, rfl, HR.out, by omega, by have := HA.out; have := HM.out; have := hlo.out; omega, by omega, .inl rfl, .inl rfl⟩
    case round =>
      obtain ⟨s, r, rfl, rfl, hr, hs0, hsr, hr0, hS, hRx⟩ := hrel
      by_cases hlt : s < r
      · obtain ⟨c, hc⟩ : ∃ c, c = (s + r) / 2 := ⟨_, rfl⟩
        obtain ⟨pc, hpc⟩ : ∃ pc, pc = p1 - c := ⟨_, rfl⟩
        have hnum : a ≤ c ∧ c < m ∧ m ≤ pc ∧ pc < b ∧ s ≤ c ∧ c < r ∧ pc + c = p1 := by have := HA.out; have := HM.out; have := hlo.out; omega
        obtain ⟨n1, n2, n3, n4, n5, n6, n7⟩ := hnum
        have wc : ((s : Int) + (r : Int)) / 2 = (c : Int) := by omega
        have wpc : (p1 : Int) - (c : Int) = (pc : Int) := by omega
        have hcn : c < n := by omega
        have hpn : pc < n := by omega
        have HPC : Hid (pc = nn - 1 - c) := hid (by have := HM.out; omega)
        clear hc hpc n7
        have hlen : (A ++ L ++ R ++ C).length = n := by have := HA.out; simp; omega
        have hcL : c - a < L.length := by have := HA.out; omega
        have hcR : pc - m < R.length := by have := HA.out; omega
        have gX : (A ++ L ++ R ++ C).getD c 0 = L.getD (c - a) 0 := by
          rw [show A ++ L ++ R ++ C = A ++ L ++ (R ++ C) by simp, at_left (by have := HA.out; omega) (by have := HA.out; omega), ← HA.out.1]
        have gY : (A ++ L ++ R ++ C).getD pc 0 = R.getD (pc - m) 0 := by
          rw [at_right (by have := HA.out; omega) (by have := HA.out; omega), show A.length + L.length = m by have := HA.out; omega]
        obtain ⟨c1, c1'⟩ := hr.out.at (i := c) (by omega)
        obtain ⟨c2, c2'⟩ := hr.out.at (i := pc) (by omega)
        rw [gX] at c1 c1'
        rw [gY] at c2 c2'
        obtain ⟨x, hx⟩ : ∃ x, x = L.getD (c - a) 0 := ⟨_, rfl⟩
        obtain ⟨y, hy⟩ : ∃ y, y = R.getD (pc - m) 0 := ⟨_, rfl⟩
        rw [← hx] at c1 c1'
        rw [← hy] at c2 c2'
        have hyR : y ∈ R := by rw [hy]; exact getD_mem hcR
        have hxy : x < y := HLR.out x (by rw [hx]; exact getD_mem hcL) y hyR
        have HYL := hid (HRR.out y hyR)
        have HXY := hid hxy
        have HX := hid hx
        have HY := hid hy
        obtain ⟨xn, hxn⟩ : ∃ n, n = (it.getD x noIt).1 := ⟨_, rfl⟩
        obtain ⟨xc, hxc⟩ : ∃ n, n = (it.getD x noIt).2 := ⟨_, rfl⟩
        obtain ⟨yn, hyn⟩ : ∃ n, n = (it.getD y noIt).1 := ⟨_, rfl⟩
        obtain ⟨yc, hyc⟩ : ∃ n, n = (it.getD y noIt).2 := ⟨_, rfl⟩
        rw [← hyn] at c2
        rw [← hyc] at c2'
        rw [← hxn] at c1
        rw [← hxc] at c1'
        have HLT := hid (cmpI_lt HLC.out HXY.out HYL.out hyc hxc)
        have HGE := hid (cmpI_ge HLC.out HXY.out HYL.out hyc hxc)
        have s1 := fun u : Later wr => u.cell c1
        have s1' := fun u : Later wr => u.cell c1'
        have s2 := fun u : Later wr => u.cell c2
        have s2' := fun u : Later wr => u.cell c2'
        have HCM := hid (fun u : Later wr => later_call (byClass yn yc xn xc u.w))
        clear hx hy hyR hxy hcL hcR hlen gX gY hxn hxc hyn hyc c1 c1' c2 c2'
        go_wp2
        refine region_later (by kernel_rfl) (by kernel_rfl) ?_
        repeat (go_big_quiet_step (first | (go_at_call 60; with_reducible exact HCM.out _)))
        refine wpQuiet_nil ?_
        intro _ hw'
        obtain ⟨u, hw''⟩ := hw'
        subst hw''
        have HRU := hid (hr.out.below u.below)
        clear s1 s1' s2 s2'
        generalize u.w = wu at HRU ⊢
        obtain ⟨z, hz⟩ : ∃ z, z = cmpI yc xc := ⟨_, rfl⟩
        rw [← hz] at HLT HGE ⊢
        clear hz
        by_cases he : z < 0
        · have HN : Hid (ilt l (R.getD (nn - 1 - c - m) 0) (L.getD (c - a) 0)) := hid (by rw [← HPC.out, ← HX.out, ← HY.out]; exact HLT.out.1 (by omega))
          go_wp2
          · exfalso
            rename_i hz
            simp at hz
            omega
          go_roundw
          case rel => exact ⟨s, c, rfl, rfl, HRU.out, hs0, n5, by omega, hS.out, .inr HN.out⟩
          case measure => simp [intOf]; omega
        · have HN : Hid (ilt l (L.getD (c + 1 - 1 - a) 0) (R.getD (nn - 1 - (c + 1 - 1) - m) 0)) := hid (by rw [Nat.add_sub_cancel, ← HPC.out, ← HX.out, ← HY.out]; exact HGE.out.1 (by omega))
          go_wp2
          · go_roundw
            case rel => exact ⟨c + 1, r, by go_num, rfl, HRU.out, by omega, by omega, hr0, .inr HN.out, hRx.out⟩
            case measure => simp [intOf]; omega
          · exfalso
            rename_i hz
            simp at hz
            omega
      · obtain rfl : r = s := by omega
        have hparts := sym_parts HA.out.2.1 HA.out.2.2.1 HM.out.1 HM.out.2.1 hlo.out hs0 hr0 HSL.out HSR.out hS.out hRx.out
        obtain ⟨q1, q2, q3, q4, hX1, hX2⟩ := hparts
        obtain ⟨e, he⟩ : ∃ e, e = nn - r := ⟨_, rfl⟩
        rw [← he] at q3 q4 hX1 hX2
        have we : (nn : Int) - (r : Int) = (e : Int) := by have := HA.out; have := HM.out; omega
        have hL2 := cut_rel HSL.out (r - a)
        have hR2 := cut_rel HSR.out (e - m)
        have hpl1 := HSL.out.sublist (List.take_sublist (r - a) L)
        have hpl2 := HSL.out.sublist (List.drop_sublist (r - a) L)
        have hpr1 := HSR.out.sublist (List.take_sublist (e - m) R)
        have hpr2 := HSR.out.sublist (List.drop_sublist (e - m) R)
        have hll1 : (L.take (r - a)).length = r - a := by rw [List.length_take]; have := HA.out; omega
        have hll2 : (L.drop (r - a)).length = m - r := by rw [List.length_drop]; have := HA.out; omega
        have hlr1 : (R.take (e - m)).length = e - m := by rw [List.length_take]; have := HA.out; omega
        have hlr2 : (R.drop (e - m)).length = b - e := by rw [List.length_drop]; have := HA.out; omega
        have heL := (List.take_append_drop (r - a) L).symm
        have heR := (List.take_append_drop (e - m) R).symm
        generalize L.take (r - a) = L1 at hL2 hpl1 hll1 heL hX1 hX2
        generalize L.drop (r - a) = L2 at hL2 hpl2 hll2 heL hX1 hX2
        generalize R.take (e - m) = R1 at hR2 hpr1 hlr1 heR hX1 hX2
        generalize R.drop (e - m) = R2 at hR2 hpr2 hlr2 heR hX1 hX2
        have HE := hid (show e = nn - r ∧ e + r = mid + m by have := HA.out; have := HM.out; omega)
        have HLEN := hid (show L1.length = r - a ∧ L2.length = m - r ∧ R1.length = e - m ∧ R2.length = b - e from ⟨hll1, hll2, hlr1, hlr2⟩)
        have HJ := hid (fun (M1 M2 : List Nat) (h1 : M1.Perm (L1 ++ R1)) (h2 : M2.Perm (L2 ++ R2)) (p1 : M1.Pairwise (ilt l)) (p2 : M2.Pairwise (ilt l)) => (⟨by rw [heL, heR]; exact perm_join h1 h2, pw_join h1 h2 p1 p2 hL2 hX1 hX2 hR2⟩ : (M1 ++ M2).Perm (L ++ R) ∧ (M1 ++ M2).Pairwise (ilt l)))
        have HLR11 := hid (show ∀ x ∈ L1, ∀ y ∈ R1, x < y from fun x hx y hy => HLR.out x (by rw [heL]; exact List.mem_append_left _ hx) y (by rw [heR]; exact List.mem_append_left _ hy))
        have HLR22 := hid (show ∀ x ∈ L2, ∀ y ∈ R2, x < y from fun x hx y hy => HLR.out x (by rw [heL]; exact List.mem_append_right _ hx) y (by rw [heR]; exact List.mem_append_right _ hy))
        have HRR1 := hid (show ∀ y ∈ R1, y < l.length from fun y hy => HRR.out y (by rw [heR]; exact List.mem_append_left _ hy))
        have HRR2 := hid (show ∀ y ∈ R2, y < l.length from fun y hy => HRR.out y (by rw [heR]; exact List.mem_append_right _ hy))
        have HPW := hid (show L1.Pairwise (ilt l) ∧ L2.Pairwise (ilt l) ∧ R1.Pairwise (ilt l) ∧ R2.Pairwise (ilt l) from ⟨hpl1, hpl2, hpr1, hpr2⟩)
        have HR0 : Hid (Rit it g off pre post w (A ++ L1 ++ L2 ++ R1 ++ (R2 ++ C)) wr) := hid (by have := hr.out; rw [heL, heR] at this; simpa using this)
        have HTOT := hid (show A.length = a ∧ L1.length + L2.length = L.length ∧ R1.length + R2.length = R.length ∧ A.length + L1.length + L2.length + R1.length + R2.length + C.length = n by have := HA.out; omega)
        clear hL2 hR2 hpl1 hpl2 hpr1 hpr2 hll1 hll2 hlr1 hlr2 heL heR hX1 hX2 he hS hRx hlo hs0 hr0
        clear hr
        obtain ⟨wz, hwz⟩ : ∃ wz, wz = wr := ⟨_, rfl⟩
        rw [← hwz] at HR0 ⊢
        clear hwz
        rcases Nat.lt_or_ge r m with hrm | hrm
        · rcases Nat.lt_or_ge m e with hme | hme
          · have hrmid : r < mid := by have := HA.out; have := HM.out; have := HE.out; have := HLEN.out; have := HTOT.out; omega
            have hmide : mid < e := by have := HA.out; have := HM.out; have := HE.out; have := HLEN.out; have := HTOT.out; omega
            rcases Nat.lt_or_ge a r with har | har
            · rcases Nat.lt_or_ge e b with heb | heb
              · go_wp2_with (first
                  | (go_at_call 84; refine (rotateItems it g off cap n pre post (A ++ L1) L2 R1 (R2 ++ C) r m e _ wz HR0.out.1 (by have := HA.out; have := HM.out; have := HE.out; have := HLEN.out; have := HTOT.out; simp only [List.length_append]; omega) hn (by have := HA.out; have := HM.out; have := HE.out; have := HLEN.out; have := HTOT.out; omega) (by have := HA.out; have := HM.out; have := HE.out; have := HLEN.out; have := HTOT.out; omega) (by have := HA.out; have := HM.out; have := HE.out; have := HLEN.out; have := HTOT.out; simp only [List.length_append]; omega) (by have := HA.out; have := HM.out; have := HE.out; have := HLEN.out; have := HTOT.out; omega) (by have := HA.out; have := HM.out; have := HE.out; have := HLEN.out; have := HTOT.out; omega)).mono ?_; rintro e6 w6 ⟨rfl, hr6⟩; have HR6 := hid (HR0.out.trans hr6); clear hr6)
                  | (go_at_call 80; refine (IH.out (A ++ M1) L2 R2 C mid e b w7 (by have := HR7.out.1; simpa using this) (by have := HL7.out; simp only [List.length_append] at this ⊢; have := HTOT.out; omega) (by have := HL7.out; simp only [List.length_append] at this ⊢; have := HTOT.out; have := HLEN.out; have := HE.out; omega) (by have := HA.out; have := HM.out; have := HE.out; have := HLEN.out; have := HTOT.out; omega) (by have := HA.out; have := HM.out; have := HE.out; have := HLEN.out; have := HTOT.out; omega) (by have := HA.out; have := HM.out; have := HE.out; have := HLEN.out; have := HTOT.out; omega) (by have := HA.out; have := HM.out; have := HE.out; have := HLEN.out; have := HTOT.out; omega) (by have := HA.out; have := HM.out; have := HE.out; have := HLEN.out; have := HTOT.out; omega) HRR2.out HLR22.out HPW.out.2.1 HPW.out.2.2.2).mono ?_; rintro e8 w8 ⟨rfl, M2, hp8, hs8, hr8⟩; have HP8 := hid hp8; have HS8 := hid hs8; have HR8 := hid (HR7.out.trans hr8); clear hp8 hs8 hr8)
                  | (go_at_call 80; refine (IH.out A L1 R1 (L2 ++ (R2 ++ C)) a r mid w6 (by have := HR6.out.1; simpa using this) (by have := HA.out; have := HM.out; have := HE.out; have := HLEN.out; have := HTOT.out; simp only [List.length_append]; omega) (by have := HA.out; have := HM.out; have := HE.out; have := HLEN.out; have := HTOT.out; omega) (by have := HA.out; have := HM.out; have := HE.out; have := HLEN.out; have := HTOT.out; omega) (by have := HA.out; have := HM.out; have := HE.out; have := HLEN.out; have := HTOT.out; omega) (by have := HA.out; have := HM.out; have := HE.out; have := HLEN.out; have := HTOT.out; omega) (by have := HA.out; have := HM.out; have := HE.out; have := HLEN.out; have := HTOT.out; omega) (by have := HA.out; have := HM.out; have := HE.out; have := HLEN.out; have := HTOT.out; omega) HRR1.out HLR11.out HPW.out.1 HPW.out.2.2.1).mono ?_; rintro e7 w7 ⟨rfl, M1, hp7, hs7, hr7⟩; have HP7 := hid hp7; have HS7 := hid hs7; have HR7 := hid (HR6.out.trans hr7); have HL7 := hid (hp7.length_eq); clear hp7 hs7 hr7))
                go_end0
                refine ⟨rfl, M1 ++ M2, (HJ.out _ _ HP7.out HP8.out HS7.out HS8.out).1, (HJ.out _ _ HP7.out HP8.out HS7.out HS8.out).2, ?_⟩
                have := HR8.out
                simpa using this
              · go_wp2_with (first
                  | (go_at_call 84; refine (rotateItems it g off cap n pre post (A ++ L1) L2 R1 (R2 ++ C) r m e _ wz HR0.out.1 (by have := HA.out; have := HM.out; have := HE.out; have := HLEN.out; have := HTOT.out; simp only [List.length_append]; omega) hn (by have := HA.out; have := HM.out; have := HE.out; have := HLEN.out; have := HTOT.out; omega) (by have := HA.out; have := HM.out; have := HE.out; have := HLEN.out; have := HTOT.out; omega) (by have := HA.out; have := HM.out; have := HE.out; have := HLEN.out; have := HTOT.out; simp only [List.length_append]; omega) (by have := HA.out; have := HM.out; have := HE.out; have := HLEN.out; have := HTOT.out; omega) (by have := HA.out; have := HM.out; have := HE.out; have := HLEN.out; have := HTOT.out; omega)).mono ?_; rintro e6 w6 ⟨rfl, hr6⟩; have HR6 := hid (HR0.out.trans hr6); clear hr6)
                  | (go_at_call 80; refine (IH.out A L1 R1 (L2 ++ (R2 ++ C)) a r mid w6 (by have := HR6.out.1; simpa using this) (by have := HA.out; have := HM.out; have := HE.out; have := HLEN.out; have := HTOT.out; simp only [List.length_append]; omega) (by have := HA.out; have := HM.out; have := HE.out; have := HLEN.out; have := HTOT.out; omega) (by have := HA.out; have := HM.out; have := HE.out; have := HLEN.out; have := HTOT.out; omega) (by have := HA.out; have := HM.out; have := HE.out; have := HLEN.out; have := HTOT.out; omega) (by have := HA.out; have := HM.out; have := HE.out; have := HLEN.out; have := HTOT.out; omega) (by have := HA.out; have := HM.out; have := HE.out; have := HLEN.out; have := HTOT.out; omega) (by have := HA.out; have := HM.out; have := HE.out; have := HLEN.out; have := HTOT.out; omega) HRR1.out HLR11.out HPW.out.1 HPW.out.2.2.1).mono ?_; rintro e7 w7 ⟨rfl, M1, hp7, hs7, hr7⟩; have HP7 := hid hp7; have HS7 := hid hs7; have HR7 := hid (HR6.out.trans hr7); have HL7 := hid (hp7.length_eq); clear hp7 hs7 hr7))
                go_end0
                have HP8 : Hid ((L2 ++ R2).Perm (L2 ++ R2)) := List.Perm.refl _
                have HS8 : Hid ((L2 ++ R2).Pairwise (ilt l)) := hid (by first | exact pw_noleft (by have := HLEN.out; have := HM.out; have := HE.out; omega) HPW.out.2.2.2 | exact pw_noright (by have := HLEN.out; have := HM.out; have := HE.out; omega) HPW.out.2.1)
                have HR8 := HR7
                refine ⟨rfl, M1 ++ (L2 ++ R2), (HJ.out _ _ HP7.out HP8.out HS7.out HS8.out).1, (HJ.out _ _ HP7.out HP8.out HS7.out HS8.out).2, ?_⟩
                have := HR8.out
                simpa using this
            · rcases Nat.lt_or_ge e b with heb | heb
              · have HP7 : Hid ((L1 ++ R1).Perm (L1 ++ R1)) := List.Perm.refl _
                have HS7 : Hid ((L1 ++ R1).Pairwise (ilt l)) := hid (by first | exact pw_noleft (by have := HLEN.out; have := HM.out; have := HE.out; omega) HPW.out.2.2.1 | exact pw_noright (by have := HLEN.out; have := HM.out; have := HE.out; omega) HPW.out.1)
                have HL7 : Hid ((L1 ++ R1).length = (L1 ++ R1).length) := rfl
                go_wp2_with (first
                  | (go_at_call 84; refine (rotateItems it g off cap n pre post (A ++ L1) L2 R1 (R2 ++ C) r m e _ wz HR0.out.1 (by have := HA.out; have := HM.out; have := HE.out; have := HLEN.out; have := HTOT.out; simp only [List.length_append]; omega) hn (by have := HA.out; have := HM.out; have := HE.out; have := HLEN.out; have := HTOT.out; omega) (by have := HA.out; have := HM.out; have := HE.out; have := HLEN.out; have := HTOT.out; omega) (by have := HA.out; have := HM.out; have := HE.out; have := HLEN.out; have := HTOT.out; simp only [List.length_append]; omega) (by have := HA.out; have := HM.out; have := HE.out; have := HLEN.out; have := HTOT.out; omega) (by have := HA.out; have := HM.out; have := HE.out; have := HLEN.out; have := HTOT.out; omega)).mono ?_; rintro e6 w6 ⟨rfl, hr6⟩; have HR6 := hid (HR0.out.trans hr6); clear hr6; have HR7 : Hid (Rit it g off pre post w (A ++ (L1 ++ R1) ++ (L2 ++ (R2 ++ C))) w6) := hid (by have := HR6.out; simpa using this))
                  | (go_at_call 80; refine (IH.out (A ++ (L1 ++ R1)) L2 R2 C mid e b w6 (by have := HR7.out.1; simpa using this) (by have := HL7.out; simp only [List.length_append] at this ⊢; have := HTOT.out; omega) (by have := HL7.out; simp only [List.length_append] at this ⊢; have := HTOT.out; have := HLEN.out; have := HE.out; omega) (by have := HA.out; have := HM.out; have := HE.out; have := HLEN.out; have := HTOT.out; omega) (by have := HA.out; have := HM.out; have := HE.out; have := HLEN.out; have := HTOT.out; omega) (by have := HA.out; have := HM.out; have := HE.out; have := HLEN.out; have := HTOT.out; omega) (by have := HA.out; have := HM.out; have := HE.out; have := HLEN.out; have := HTOT.out; omega) (by have := HA.out; have := HM.out; have := HE.out; have := HLEN.out; have := HTOT.out; omega) HRR2.out HLR22.out HPW.out.2.1 HPW.out.2.2.2).mono ?_; rintro e8 w8 ⟨rfl, M2, hp8, hs8, hr8⟩; have HP8 := hid hp8; have HS8 := hid hs8; have HR8 := hid (HR7.out.trans hr8); clear hp8 hs8 hr8))
                go_end0
                refine ⟨rfl, (L1 ++ R1) ++ M2, (HJ.out _ _ HP7.out HP8.out HS7.out HS8.out).1, (HJ.out _ _ HP7.out HP8.out HS7.out HS8.out).2, ?_⟩
                have := HR8.out
                simpa using this
              · have HP7 : Hid ((L1 ++ R1).Perm (L1 ++ R1)) := List.Perm.refl _
                have HS7 : Hid ((L1 ++ R1).Pairwise (ilt l)) := hid (by first | exact pw_noleft (by have := HLEN.out; have := HM.out; have := HE.out; omega) HPW.out.2.2.1 | exact pw_noright (by have := HLEN.out; have := HM.out; have := HE.out; omega) HPW.out.1)
                have HL7 : Hid ((L1 ++ R1).length = (L1 ++ R1).length) := rfl
                go_wp2_with (first
                  | (go_at_call 84; refine (rotateItems it g off cap n pre post (A ++ L1) L2 R1 (R2 ++ C) r m e _ wz HR0.out.1 (by have := HA.out; have := HM.out; have := HE.out; have := HLEN.out; have := HTOT.out; simp only [List.length_append]; omega) hn (by have := HA.out; have := HM.out; have := HE.out; have := HLEN.out; have := HTOT.out; omega) (by have := HA.out; have := HM.out; have := HE.out; have := HLEN.out; have := HTOT.out; omega) (by have := HA.out; have := HM.out; have := HE.out; have := HLEN.out; have := HTOT.out; simp only [List.length_append]; omega) (by have := HA.out; have := HM.out; have := HE.out; have := HLEN.out; have := HTOT.out; omega) (by have := HA.out; have := HM.out; have := HE.out; have := HLEN.out; have := HTOT.out; omega)).mono ?_; rintro e6 w6 ⟨rfl, hr6⟩; have HR6 := hid (HR0.out.trans hr6); clear hr6; have HR7 : Hid (Rit it g off pre post w (A ++ (L1 ++ R1) ++ (L2 ++ (R2 ++ C))) w6) := hid (by have := HR6.out; simpa using this)))
                go_end0
                have HP8 : Hid ((L2 ++ R2).Perm (L2 ++ R2)) := List.Perm.refl _
                have HS8 : Hid ((L2 ++ R2).Pairwise (ilt l)) := hid (by first | exact pw_noleft (by have := HLEN.out; have := HM.out; have := HE.out; omega) HPW.out.2.2.2 | exact pw_noright (by have := HLEN.out; have := HM.out; have := HE.out; omega) HPW.out.2.1)
                have HR8 := HR7
                refine ⟨rfl, (L1 ++ R1) ++ (L2 ++ R2), (HJ.out _ _ HP7.out HP8.out HS7.out HS8.out).1, (HJ.out _ _ HP7.out HP8.out HS7.out HS8.out).2, ?_⟩
                have := HR8.out
                simpa using this
          · have f1 : a < r := by have := HA.out; have := HM.out; have := HE.out; have := HLEN.out; have := HTOT.out; omega
            have f2 : mid ≤ r := by have := HA.out; have := HM.out; have := HE.out; have := HLEN.out; have := HTOT.out; omega
            have f3 : mid < e := by have := HA.out; have := HM.out; have := HE.out; have := HLEN.out; have := HTOT.out; omega
            have f4 : e < b := by have := HA.out; have := HM.out; have := HE.out; have := HLEN.out; have := HTOT.out; omega
            have HR6 : Hid (Rit it g off pre post w (A ++ L1 ++ R1 ++ L2 ++ (R2 ++ C)) wz) := hid (by rw [← nil_rot (X := L2) (Y := R1) (by have := HLEN.out; omega)]; exact HR0.out)
            have HP7 : Hid ((L1 ++ R1).Perm (L1 ++ R1)) := List.Perm.refl _
            have HS7 : Hid ((L1 ++ R1).Pairwise (ilt l)) := hid (by first | exact pw_noleft (by have := HLEN.out; have := HM.out; have := HE.out; omega) HPW.out.2.2.1 | exact pw_noright (by have := HLEN.out; have := HM.out; have := HE.out; omega) HPW.out.1)
            have HR7 : Hid (Rit it g off pre post w (A ++ (L1 ++ R1) ++ (L2 ++ (R2 ++ C))) wz) := hid (by have := HR6.out; simpa using this)
            have HL7 : Hid ((L1 ++ R1).length = (L1 ++ R1).length) := rfl
            go_wp2_with (first
              | (go_at_call 80; refine (IH.out (A ++ (L1 ++ R1)) L2 R2 C mid e b wz (by have := HR7.out.1; simpa using this) (by have := HL7.out; simp only [List.length_append] at this ⊢; have := HTOT.out; omega) (by have := HL7.out; simp only [List.length_append] at this ⊢; have := HTOT.out; have := HLEN.out; have := HE.out; omega) (by have := HA.out; have := HM.out; have := HE.out; have := HLEN.out; have := HTOT.out; omega) (by have := HA.out; have := HM.out; have := HE.out; have := HLEN.out; have := HTOT.out; omega) (by have := HA.out; have := HM.out; have := HE.out; have := HLEN.out; have := HTOT.out; omega) (by have := HA.out; have := HM.out; have := HE.out; have := HLEN.out; have := HTOT.out; omega) (by have := HA.out; have := HM.out; have := HE.out; have := HLEN.out; have := HTOT.out; omega) HRR2.out HLR22.out HPW.out.2.1 HPW.out.2.2.2).mono ?_; rintro e8 w8 ⟨rfl, M2, hp8, hs8, hr8⟩; have HP8 := hid hp8; have HS8 := hid hs8; have HR8 := hid (HR7.out.trans hr8); clear hp8 hs8 hr8))
            go_end0
            refine ⟨rfl, (L1 ++ R1) ++ M2, (HJ.out _ _ HP7.out HP8.out HS7.out HS8.out).1, (HJ.out _ _ HP7.out HP8.out HS7.out HS8.out).2, ?_⟩
            have := HR8.out
            simpa using this
        · rcases Nat.lt_or_ge m e with hme | hme
          · have f1 : a < r := by have := HA.out; have := HM.out; have := HE.out; have := HLEN.out; have := HTOT.out; omega
            have f2 : r < mid := by have := HA.out; have := HM.out; have := HE.out; have := HLEN.out; have := HTOT.out; omega
            have f3 : e ≤ mid := by have := HA.out; have := HM.out; have := HE.out; have := HLEN.out; have := HTOT.out; omega
            have HR6 : Hid (Rit it g off pre post w (A ++ L1 ++ R1 ++ L2 ++ (R2 ++ C)) wz) := hid (by rw [← nil_rot (X := L2) (Y := R1) (by have := HLEN.out; omega)]; exact HR0.out)
            go_wp2_with (first
              | (go_at_call 80; refine (IH.out A L1 R1 (L2 ++ (R2 ++ C)) a r mid wz (by have := HR6.out.1; simpa using this) (by have := HA.out; have := HM.out; have := HE.out; have := HLEN.out; have := HTOT.out; simp only [List.length_append]; omega) (by have := HA.out; have := HM.out; have := HE.out; have := HLEN.out; have := HTOT.out; omega) (by have := HA.out; have := HM.out; have := HE.out; have := HLEN.out; have := HTOT.out; omega) (by have := HA.out; have := HM.out; have := HE.out; have := HLEN.out; have := HTOT.out; omega) (by have := HA.out; have := HM.out; have := HE.out; have := HLEN.out; have := HTOT.out; omega) (by have := HA.out; have := HM.out; have := HE.out; have := HLEN.out; have := HTOT.out; omega) (by have := HA.out; have := HM.out; have := HE.out; have := HLEN.out; have := HTOT.out; omega) HRR1.out HLR11.out HPW.out.1 HPW.out.2.2.1).mono ?_; rintro e7 w7 ⟨rfl, M1, hp7, hs7, hr7⟩; have HP7 := hid hp7; have HS7 := hid hs7; have HR7 := hid (HR6.out.trans hr7); have HL7 := hid (hp7.length_eq); clear hp7 hs7 hr7))
            go_end0
            have HP8 : Hid ((L2 ++ R2).Perm (L2 ++ R2)) := List.Perm.refl _
            have HS8 : Hid ((L2 ++ R2).Pairwise (ilt l)) := hid (by first | exact pw_noleft (by have := HLEN.out; have := HM.out; have := HE.out; omega) HPW.out.2.2.2 | exact pw_noright (by have := HLEN.out; have := HM.out; have := HE.out; omega) HPW.out.2.1)
            have HR8 := HR7
            refine ⟨rfl, M1 ++ (L2 ++ R2), (HJ.out _ _ HP7.out HP8.out HS7.out HS8.out).1, (HJ.out _ _ HP7.out HP8.out HS7.out HS8.out).2, ?_⟩
            have := HR8.out
            simpa using this
          · have f1 : a < r := by have := HA.out; have := HM.out; have := HE.out; have := HLEN.out; have := HTOT.out; omega
            have f2 : mid ≤ r := by have := HA.out; have := HM.out; have := HE.out; have := HLEN.out; have := HTOT.out; omega
            have f3 : e ≤ mid := by have := HA.out; have := HM.out; have := HE.out; have := HLEN.out; have := HTOT.out; omega
            have HR6 : Hid (Rit it g off pre post w (A ++ L1 ++ R1 ++ L2 ++ (R2 ++ C)) wz) := hid (by rw [← nil_rot (X := L2) (Y := R1) (by have := HLEN.out; omega)]; exact HR0.out)
            have HP7 : Hid ((L1 ++ R1).Perm (L1 ++ R1)) := List.Perm.refl _
            have HS7 : Hid ((L1 ++ R1).Pairwise (ilt l)) := hid (by first | exact pw_noleft (by have := HLEN.out; have := HM.out; have := HE.out; omega) HPW.out.2.2.1 | exact pw_noright (by have := HLEN.out; have := HM.out; have := HE.out; omega) HPW.out.1)
            have HR7 : Hid (Rit it g off pre post w (A ++ (L1 ++ R1) ++ (L2 ++ (R2 ++ C))) wz) := hid (by have := HR6.out; simpa using this)
            have HL7 : Hid ((L1 ++ R1).length = (L1 ++ R1).length) := rfl
            go_wp2_with (fail)
            go_end0
            have HP8 : Hid ((L2 ++ R2).Perm (L2 ++ R2)) := List.Perm.refl _
            have HS8 : Hid ((L2 ++ R2).Pairwise (ilt l)) := hid (by first | exact pw_noleft (by have := HLEN.out; have := HM.out; have := HE.out; omega) HPW.out.2.2.2 | exact pw_noright (by have := HLEN.out; have := HM.out; have := HE.out; omega) HPW.out.2.1)
            have HR8 := HR7
            refine ⟨rfl, (L1 ++ R1) ++ (L2 ++ R2), (HJ.out _ _ HP7.out HP8.out HS7.out HS8.out).1, (HJ.out _ _ HP7.out HP8.out HS7.out HS8.out).2, ?_⟩
            have := HR8.out
            simpa using this
end Go.Proofs.Ytdncmdpacidgmaa
