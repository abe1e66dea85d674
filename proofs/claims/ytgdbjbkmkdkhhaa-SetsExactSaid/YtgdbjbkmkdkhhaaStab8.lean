/- Contract of the library's stable sort of a row of numbers (slices.stableCmpFunc, slices.SortStableFunc at []int): from the numbers in their order, the places in order. -/
import Derived.Test.YtgdbjbkmkdkhhaaStab7
namespace Go.Proofs.Ytgdbjbkmkdkhhaa
open Go.RowKit

/-- runs of bs numbers each, but for the last, each in order -/
inductive Blks (l : List (List Int)) (bs : Nat) : Nat → List Nat → Prop
  | last (s : Nat) (M : List Nat) (h : M.length ≤ bs) (hp : M.Perm (List.range' s M.length)) (hs : M.Pairwise (ilt l)) : Blks l bs s M
  | more (s : Nat) (M q : List Nat) (h : M.length = bs) (hp : M.Perm (List.range' s M.length)) (hs : M.Pairwise (ilt l)) (hq : Blks l bs (s + bs) q) : Blks l bs s (M ++ q)
def Pre (l : List (List Int)) (bs a : Nat) (A : List Nat) : Prop := ∀ q, Blks l bs a q → Blks l bs 0 (A ++ q)
theorem Pre.nil (l : List (List Int)) (bs : Nat) : Pre l bs 0 [] := fun _ h => h
theorem Pre.next {l : List (List Int)} {bs a : Nat} {A M : List Nat} (h : Pre l bs a A) (hl : M.length = bs) (hp : M.Perm (List.range' a M.length)) (hs : M.Pairwise (ilt l)) : Pre l bs (a + bs) (A ++ M) := fun q hq => by
  rw [List.append_assoc]
  exact h _ (.more a M q hl hp hs hq)
theorem Blks.nil (l : List (List Int)) (bs a : Nat) : Blks l bs a [] := .last a [] (by simp) (List.Perm.refl _) List.Pairwise.nil
/-- the first run, and what stands behind it -/
theorem Blks.cut {l : List (List Int)} {bs s : Nat} {q : List Nat} (h : Blks l bs s q) (hb : bs ≤ q.length) : ∃ M q', q = M ++ q' ∧ M.length = bs ∧ M.Perm (List.range' s M.length) ∧ M.Pairwise (ilt l) ∧ Blks l bs (s + bs) q' := by
  cases h with
  | last _ _ h hp hs => exact ⟨q, [], by simp, by omega, hp, hs, Blks.nil _ _ _⟩
  | more _ M q h hp hs hq => exact ⟨M, q, rfl, h, hp, hs, hq⟩
/-- no more than one run -/
theorem Blks.one {l : List (List Int)} {bs s : Nat} {q : List Nat} (h : Blks l bs s q) (hb : q.length ≤ bs) : q.Perm (List.range' s q.length) ∧ q.Pairwise (ilt l) := by
  cases h with
  | last _ _ h hp hs => exact ⟨hp, hs⟩
  | more _ M q h hp hs hq =>
    have hq0 : q = [] := List.eq_nil_of_length_eq_zero (by simp at hb; omega)
    subst hq0
    rw [List.append_nil]
    exact ⟨hp, hs⟩
theorem perm_lt {M : List Nat} {s k x : Nat} (h : M.Perm (List.range' s k)) (hx : x ∈ M) : s ≤ x ∧ x < s + k := by
  have := h.mem_iff.1 hx
  rwa [List.mem_range'_1] at this
theorem perm_two {M M1 M2 : List Nat} {s : Nat} (h : M.Perm (M1 ++ M2)) (h1 : M1.Perm (List.range' s M1.length)) (h2 : M2.Perm (List.range' (s + M1.length) M2.length)) : M.Perm (List.range' s M.length) := by
  have e : List.range' s M.length = List.range' s M1.length ++ List.range' (s + M1.length) M2.length := by
    rw [h.length_eq, List.length_append, List.range'_append_1]
  rw [e]
  exact h.trans (h1.append h2)

theorem insAny (l : List (List Int)) (B g cap n : Nat) (A C : List Nat) (a b : Nat) (w : World) (hb : Box 3 (cv (A ++ List.range' a (b - a) ++ C)) g w) (hp : A.length + (b - a) + C.length = n) (hn : n ≤ 1000000)
    (ha : a = A.length) (hab : a ≤ b) (hc : CmpAt l B g w) (hl : b ≤ l.length) :
    Calls Try.prog 30 #[.slice (some ⟨g, 0, none⟩) n cap, .int .i64 a, .int .i64 b, .func (.func 24) #[] #[.pointer (some ⟨B, 0, none⟩)]] w fun e w' => e = .returned (.tuple #[]) ∧
      ∃ M, M.Perm (List.range' a (b - a)) ∧ M.Pairwise (ilt l) ∧ Rown g w (A ++ M ++ C) w' := by
  rcases Nat.lt_or_ge a b with h | h
  · exact insSome l B g cap n A C a b w hb hp hn ha h hc hl
  · obtain rfl : a = b := by omega
    refine (insNone g cap n a _ w (by omega)).mono ?_
    rintro e w' ⟨rfl, rfl⟩
    refine ⟨rfl, [], by rw [Nat.sub_self]; exact List.Perm.refl _, List.Pairwise.nil, ?_⟩
    rw [Nat.sub_self] at hb
    exact Rown.refl hb
theorem perm_seg {M : List Nat} {s k : Nat} (h : M.Perm (List.range' s k)) : M.length = k ∧ M.Perm (List.range' s M.length) := by
  have e := h.length_eq
  rw [List.length_range'] at e
  exact ⟨e, by rw [e]; exact h⟩

set_option maxHeartbeats 4000000 in
set_option maxRecDepth 100000 in
theorem stableRow (l : List (List Int)) (B g cap n : Nat) (w : World) (hb : Box 3 (cv (List.range' 0 n)) g w) (hn : n ≤ 100000) (hl : n = l.length) (hc : CmpAt l B g w) :
    Calls Try.prog 28 #[.slice (some ⟨g, 0, none⟩) n cap, .int .i64 n, .func (.func 24) #[] #[.pointer (some ⟨B, 0, none⟩)]] w fun e w' => e = .returned (.tuple #[]) ∧
      ∃ M, IsPl l n M ∧ Rown g w M w' := by
  have HR := hid (Rown.refl hb)
  have HC := hid hc
  have HL := hid hl
  clear hb hc hl
  go_enter Try.func28, Try.ntmps28
  go_wp2
  go_loopw [7, 8] (fun av bv wr => ∃ (a b : Nat) (A : List Nat), av = .int .i64 a ∧ bv = .int .i64 b ∧ a ≤ n ∧ Hid (b = a + 20 ∧ a = A.length ∧ Pre l 20 a A) ∧ b ≤ n + 20 ∧ Hid (Rown g w (A ++ List.range' a (n - a)) wr)) (fun _ bv _ => n + 20 - (intOf bv).toNat)
  case atStart => exact ⟨0, 20, [], rfl, rfl, by omega, ⟨rfl, rfl, Pre.nil _ _⟩, by omega, by rw [List.nil_append, Nat.sub_zero]; exact HR.out⟩
  case round =>
    obtain ⟨a, b, A, rfl, rfl, ha, hab, hbn, hr⟩ := hrel
    by_cases hlt : b ≤ n
    · have HBX : Hid (Box 3 (cv (A ++ List.range' a (b - a) ++ List.range' b (n - b))) g wr) := hid (by
        have h := hr.out.1
        rw [show n - a = (b - a) + (n - b) by have := hab.out; omega, ← List.range'_append_1, show a + (b - a) = b by have := hab.out; omega, ← List.append_assoc] at h
        exact h)
      go_wp2_with (go_at_call 30; refine (insSome l B g cap n A (List.range' b (n - b)) a b wr HBX.out (by have := hab.out; simp only [List.length_range']; omega) (by omega) hab.out.2.1 (by have := hab.out; omega) (HC.out.next hr.out.2) (by have := HL.out; omega)).mono ?_; rintro e5 w5 ⟨rfl, M, hp5, hs5, hr5⟩; have HP5 := hid hp5; have HS5 := hid hs5; have HR5 := hid (hr.out.trans hr5); clear hp5 hs5 hr5)
      have HM : Hid (M.length = 20) := hid (by have := HP5.out.length_eq; have := hab.out; simp only [List.length_range'] at *; omega)
      go_roundw
      case rel => exact ⟨b, b + 20, A ++ M, rfl, by first | rfl | go_num, hlt, ⟨rfl, by have := hab.out; have := HM.out; simp only [List.length_append]; omega, by have h := hab.out.2.2.next HM.out (by have := HP5.out; rwa [show b - a = M.length by have := hab.out; have := HM.out; omega] at this) HS5.out; rwa [← hab.out.1] at h⟩, by omega, HR5.out⟩
      case measure => simp [intOf]; omega
    · have HBX : Hid (Box 3 (cv (A ++ List.range' a (n - a) ++ [])) g wr) := hid (by rw [List.append_nil]; exact hr.out.1)
      go_wp2_with (go_at_call 30; refine (insAny l B g cap n A [] a n wr HBX.out (by have := hab.out; simp only [List.length_nil]; omega) (by omega) hab.out.2.1 ha (HC.out.next hr.out.2) (by have := HL.out; omega)).mono ?_; rintro e5 w5 ⟨rfl, M, hp5, hs5, hr5⟩; have HP5 := hid hp5; have HS5 := hid hs5; have HR5 := hid (hr.out.trans hr5); clear hp5 hs5 hr5)
      have HB0 : Hid (Blks l 20 0 (A ++ M) ∧ (A ++ M).length = n) := hid (by
        have h := perm_seg HP5.out
        refine ⟨hab.out.2.2 _ (.last a M (by have := hab.out; omega) h.2 HS5.out), by have := hab.out; rw [List.length_append]; omega⟩)
      have HR6 : Hid (Rown g w (A ++ M) w5) := hid (by have := HR5.out; rwa [List.append_nil] at this)
      clear HBX HR HP5 HS5 HR5
      go_loopw [6] (fun sv wr => ∃ (bs : Nat) (p : List Nat), sv = .int .i64 bs ∧ 20 ≤ bs ∧ bs ≤ 2 * n + 20 ∧ Hid (Blks l bs 0 p ∧ p.length = n) ∧ Hid (Rown g w p wr)) (fun sv _ => 2 * n + 20 - (intOf sv).toNat)
      case atStart => exact ⟨20, A ++ M, rfl, by omega, by omega, HB0.out, HR6.out⟩
      case round =>
        clear hr hab HB0 HR6 ha hbn hlt
        obtain ⟨bs, p, rfl, h20, h2n, hbl, hr⟩ := hrel
        by_cases hlt : bs < n
        · obtain ⟨b2, hb2⟩ : ∃ b2, b2 = 2 * bs := ⟨_, rfl⟩
          have w2 : (2 : Int) * (bs : Int) = (b2 : Int) := by omega
          have w3 : (bs : Int) * 2 = (b2 : Int) := by omega
          have hb2n : b2 ≤ 2 * n := by omega
          have HB2 := hid hb2
          clear hb2
          go_wp2_with (fail)
          go_loopw [7, 8] (fun av bv wr => ∃ (a b : Nat) (A q : List Nat), av = .int .i64 a ∧ bv = .int .i64 b ∧ a ≤ n ∧ b ≤ n + b2 ∧ a ≤ b ∧ Hid (b = a + b2 ∧ a = A.length ∧ A.length + q.length = n ∧ Pre l b2 a A ∧ Blks l bs a q) ∧ Hid (Rown g w (A ++ q) wr)) (fun _ bv _ => n + b2 - (intOf bv).toNat)
          case atStart => exact ⟨0, b2, [], p, rfl, rfl, by omega, by omega, by omega, ⟨by omega, rfl, by simpa using hbl.out.2, Pre.nil _ _, hbl.out.1⟩, by rw [List.nil_append]; exact hr.out⟩
          case round =>
            clear hr hbl
            obtain ⟨a, b, A, q, rfl, rfl, han, hbn2, hab', hab, hr⟩ := hrel
            obtain ⟨m, hm⟩ : ∃ m, m = a + bs := ⟨_, rfl⟩
            have w4 : (a : Int) + (bs : Int) = (m : Int) := by omega
            by_cases hltb : b ≤ n
            · have hcut : ∃ M1 M2 q', q = M1 ++ (M2 ++ q') ∧ (M1.length = bs ∧ M2.length = bs) ∧ (M1.Perm (List.range' a M1.length) ∧ M2.Perm (List.range' m M2.length)) ∧ (M1.Pairwise (ilt l) ∧ M2.Pairwise (ilt l)) ∧ Blks l bs (a + b2) q' := by
                obtain ⟨M1, q1, rfl, h1, h2, h3, h4⟩ := hab.out.2.2.2.2.cut (by have := hab.out; have := HB2.out; omega)
                obtain ⟨M2, q2, rfl, k1, k2, k3, k4⟩ := h4.cut (by have h9 := hab.out.2.2.1; have := hab.out.1; have := hab.out.2.1; have := HB2.out; rw [List.length_append] at h9; omega)
                exact ⟨M1, M2, q2, rfl, ⟨h1, k1⟩, ⟨h2, by rw [hm]; exact k2⟩, ⟨h3, k3⟩, by rw [show a + b2 = a + bs + bs by have := HB2.out; omega]; exact k4⟩
              obtain ⟨M1, M2, q', rfl, hML, hMP, hMS, hMq⟩ := hcut
              have hlow : ∀ x ∈ M1, ∀ y ∈ M2, x < y := fun x hx y hy => by
                have h1 := perm_lt hMP.1 hx
                have h2 := perm_lt hMP.2 hy
                omega
              have htop : ∀ y ∈ M2, y < l.length := fun y hy => by
                have h2 := perm_lt hMP.2 hy
                have := hab.out
                have := HL.out
                have := HB2.out
                omega
              have HLOW := hid hlow
              have HTOP := hid htop
              have HML := hid hML
              have HMP := hid hMP
              have HMS := hid hMS
              have HMQ := hid hMq
              have HM := hid hm
              have HLEN := hid (show A.length + bs + bs + q'.length = n by have h9 := hab.out.2.2.1; simp only [List.length_append] at h9; omega)
              have HBX : Hid (Box 3 (cv (A ++ M1 ++ M2 ++ q')) g wr) := hid (by have h := hr.out.1; simpa using h)
              clear hlow htop hML hMP hMS hMq hm
              go_wp2_with (go_at_call 31; refine (symAll l B g cap n (by omega) n A M1 M2 q' a m b wr HBX.out (by have := HML.out; have := HLEN.out; omega) hab.out.2.1 (by have := HML.out; have := HM.out; omega) (by have := HML.out; have := HM.out; have := hab.out.1; have := HB2.out; omega) (by have := HML.out; omega) (by have := HML.out; omega) (by have := HML.out; have := HLEN.out; omega) (HC.out.next hr.out.2) HTOP.out HLOW.out HMS.out.1 HMS.out.2).mono ?_; rintro e5 w5 ⟨rfl, M, hp5, hs5, hr5⟩; have HP5 := hid hp5; have HS5 := hid hs5; have HR5 := hid (hr.out.trans hr5); clear hp5 hs5 hr5)
              have HMM : Hid (M.length = b2 ∧ M.Perm (List.range' a M.length)) := hid ⟨by have h9 := HP5.out.length_eq; rw [List.length_append] at h9; have := HML.out; have := HB2.out; omega, perm_two HP5.out HMP.out.1 (by rw [show a + M1.length = m by have := HML.out; have := HM.out; omega]; exact HMP.out.2)⟩
              go_roundw
              case rel => exact ⟨b, b + b2, A ++ M, q', rfl, by first | rfl | go_num, hltb, by omega, by omega, ⟨rfl, by rw [List.length_append]; have := hab.out.1; have := hab.out.2.1; have := HMM.out.1; omega, by rw [List.length_append]; have := HMM.out.1; have := HLEN.out; have := HB2.out; omega, by have h := hab.out.2.2.2.1.next HMM.out.1 HMM.out.2 HS5.out; rwa [← hab.out.1] at h, by rw [hab.out.1]; exact HMQ.out⟩, HR5.out⟩
              case measure => simp [intOf]; omega
            · by_cases hmn : m < n
              · have hcut : ∃ M1 M2, q = M1 ++ M2 ∧ (M1.length = bs ∧ M2.length = n - m) ∧ (M1.Perm (List.range' a M1.length) ∧ M2.Perm (List.range' m M2.length)) ∧ (M1.Pairwise (ilt l) ∧ M2.Pairwise (ilt l)) := by
                  obtain ⟨M1, q1, rfl, h1, h2, h3, h4⟩ := hab.out.2.2.2.2.cut (by have := hab.out; omega)
                  have hq1 : q1.length = n - m := by have h9 := hab.out.2.2.1; rw [List.length_append] at h9; have := hab.out.2.1; omega
                  have h5 := h4.one (by have := hab.out.1; have := HB2.out; omega)
                  exact ⟨M1, q1, rfl, ⟨h1, hq1⟩, ⟨h2, by rw [hm]; exact h5.1⟩, ⟨h3, h5.2⟩⟩
                obtain ⟨M1, M2, rfl, hML, hMP, hMS⟩ := hcut
                have hlow : ∀ x ∈ M1, ∀ y ∈ M2, x < y := fun x hx y hy => by
                  have h1 := perm_lt hMP.1 hx
                  have h2 := perm_lt hMP.2 hy
                  omega
                have htop : ∀ y ∈ M2, y < l.length := fun y hy => by
                  have h2 := perm_lt hMP.2 hy
                  have := HL.out
                  omega
                have HLOW := hid hlow
                have HTOP := hid htop
                have HML := hid hML
                have HMP := hid hMP
                have HMS := hid hMS
                have HM := hid hm
                have HLEN := hid (show A.length + bs + (n - m) = n by have h9 := hab.out.2.2.1; simp only [List.length_append] at h9; omega)
                have HBX : Hid (Box 3 (cv (A ++ M1 ++ M2 ++ [])) g wr) := hid (by have h := hr.out.1; simpa using h)
                clear hlow htop hML hMP hMS hm
                go_wp2_with (go_at_call 31; refine (symAll l B g cap n (by omega) n A M1 M2 [] a m n wr HBX.out (by have := HML.out; have := HLEN.out; simp only [List.length_nil]; omega) hab.out.2.1 (by have := HML.out; have := HM.out; omega) (by have := HML.out; omega) (by have := HML.out; omega) (by have := HML.out; omega) (by have := HML.out; have := HLEN.out; omega) (HC.out.next hr.out.2) HTOP.out HLOW.out HMS.out.1 HMS.out.2).mono ?_; rintro e5 w5 ⟨rfl, M, hp5, hs5, hr5⟩; have HP5 := hid hp5; have HS5 := hid hs5; have HR5 := hid (hr.out.trans hr5); clear hp5 hs5 hr5)
                have HMM : Hid (M.length + a = n ∧ M.Perm (List.range' a M.length)) := hid ⟨by have h9 := HP5.out.length_eq; rw [List.length_append] at h9; have := HML.out; have := HM.out; omega, perm_two HP5.out HMP.out.1 (by rw [show a + M1.length = m by have := HML.out; have := HM.out; omega]; exact HMP.out.2)⟩
                go_roundw
                case rel => exact ⟨b2, A ++ M, rfl, by have := HB2.out; omega, by omega, ⟨hab.out.2.2.2.1 _ (.last a M (by have := HMM.out.1; have := hab.out.1; omega) HMM.out.2 HS5.out), by rw [List.length_append]; have := HMM.out.1; have := hab.out.2.1; omega⟩, by have := HR5.out; rwa [List.append_nil] at this⟩
                case measure => have := HB2.out; simp [intOf]; omega
              · have h5 := hab.out.2.2.2.2.one (by have := hab.out; omega)
                have HQ := hid h5
                have HM := hid hm
                clear h5 hm
                go_wp2
                go_roundw
                case rel => exact ⟨b2, A ++ q, rfl, by have := HB2.out; omega, by omega, ⟨hab.out.2.2.2.1 _ (.last a q (by have := hab.out; have := HM.out; have := HB2.out; omega) HQ.out.1 HQ.out.2), by rw [List.length_append]; exact hab.out.2.2.1⟩, hr.out⟩
                case measure => have := HB2.out; simp [intOf]; omega
        · have h5 := hbl.out.1.one (by have := hbl.out.2; omega)
          rw [hbl.out.2, ← List.range_eq_range'] at h5
          have HQ := hid h5
          clear h5
          go_wp2
          go_end0
          exact ⟨rfl, p, HQ.out, hr.out⟩
end Go.Proofs.Ytgdbjbkmkdkhhaa
