/- The plain functions that say what an identifier's content and text are, and what is read of bytes and of a text. No conditions. -/
import Derived.Test.YtihbgpgiladfkaaDoorTlvMath
namespace Go.Proofs.YtihbgpgiladfkaaDoor

def maxN : Int := 9223372036854775807

/-- is it one? -/
def oidOk : List Int → Bool
  | a :: b :: r => decide (r.length ≤ 38 ∧ 0 ≤ a ∧ a ≤ 2 ∧ (a < 2 → b ≤ 39) ∧ 0 ≤ b ∧ b ≤ maxN - 80) && r.all (fun x => decide (0 ≤ x ∧ x ≤ maxN))
  | _ => false
def groups (ms : List Int) : List Int := (ms.map fun m => sept m.toNat).flatten
/-- the content of one -/
def contentS : List Int → List Int
  | a :: b :: r => groups ((40 * a + b) :: r)
  | _ => []
/-- the numbers of groups of seven bits: has one begun?, what has come of it -/
def numsS : Bool → Int → List Int → Option (List Int)
  | o, _, [] => if o = true then none else some []
  | o, n, x :: r =>
    if (o = false ∧ x = 128) ∨ 72057594037927935 < n then none
    else if 128 ≤ x then numsS true (n * 128 + (x - 128)) r
    else (numsS false 0 r).map fun ms => (n * 128 + x) :: ms
def firstTwo : List Int → List Int
  | m :: ms => min (m / 40) 2 :: (m - 40 * min (m / 40) 2) :: ms
  | [] => []
def guardS (l : List Int) : Option (List Int) := if oidOk l = true then some l else none
/-- what is read of bytes -/
def readS (b : List Int) : Option (List Int) := (numsS false 0 b).bind fun ms => guardS (firstTwo ms)

/-- a number's digits -/
def decS (n : Nat) : List Int := if n < 10 then [48 + (n : Int)] else decS (n / 10) ++ [48 + ((n % 10 : Nat) : Int)]
  termination_by n
  decreasing_by omega
/-- numbers with points between them -/
def textS : List Int → List Int
  | [] => []
  | [m] => decS m.toNat
  | m :: k :: r => decS m.toNat ++ 46 :: textS (k :: r)
/-- the numbers of a text: has a digit come?, was it a nought that stands first?, what has come -/
def numsT : Bool → Bool → Int → List Int → Option (List Int)
  | c, _, n, [] => if c = true then some [n] else none
  | c, z, n, x :: r =>
    if x = 46 then (if c = true then (numsT false false 0 r).map fun ms => n :: ms else none)
    else if x < 48 ∨ 57 < x ∨ z = true ∨ maxN < 10 * n + (x - 48) then none
    else numsT true (!c && decide (x = 48)) (10 * n + (x - 48)) r
/-- one number's digits: has a digit come?, was it a nought that stands first?, what has come -/
def numD : Bool → Bool → Int → List Int → Option Int
  | c, _, n, [] => if c = true then some n else none
  | c, z, n, x :: r =>
    if x < 48 ∨ 57 < x ∨ z = true ∨ maxN < 10 * n + (x - 48) then none
    else numD true (!c && decide (x = 48)) (10 * n + (x - 48)) r
def numP (xs : List Int) : Int × Bool := match numD false false 0 xs with
  | some n => (n, true)
  | none => (0, false)
/-- what is read of a text -/
def parseS (s : List Int) : Option (List Int) := (numsT false false 0 s).bind guardS

/-- one number: its value, how many bytes (k of them are behind) -/
def rdN : Nat → Int → List Int → Option (Int × Nat)
  | _, _, [] => none
  | k, n, x :: r =>
    if (k = 0 ∧ x = 128) ∨ 72057594037927935 < n then none
    else if 128 ≤ x then rdN (k + 1) (n * 128 + (x - 128)) r
    else some (n * 128 + x, k + 1)
def rdT (xs : List Int) : Int × Int × Bool := match rdN 0 0 xs with
  | some (n, s) => (n, (s : Int), true)
  | none => (0, 0, false)
theorem rdN_size : ∀ (xs : List Int) (k : Nat) (n m : Int) (s : Nat), rdN k n xs = some (m, s) → k < s ∧ s ≤ k + xs.length
  | [], _, _, _, _, h => by cases h
  | x :: r, k, n, m, s, h => by
    rw [rdN] at h
    split at h
    · cases h
    split at h
    · have := rdN_size r _ _ _ _ h
      simp; omega
    · injection h with h
      injection h with _ h2
      simp; omega
theorem nums_rdN : ∀ (xs : List Int) (k : Nat) (n : Int), (k ≠ 0 ∨ xs ≠ []) →
    numsS (decide (k ≠ 0)) n xs = (rdN k n xs).bind fun p => (numsS false 0 (xs.drop (p.2 - k))).map fun ms => p.1 :: ms
  | [], k, n, h => by
    have hk : k ≠ 0 := h.elim id fun h => absurd rfl h
    simp [numsS, rdN, hk]
  | x :: r, k, n, _ => by
    rw [numsS, rdN]
    by_cases h1 : (k = 0 ∧ x = 128) ∨ 72057594037927935 < n
    · rw [if_pos (by simpa using h1), if_pos h1]; rfl
    · rw [if_neg (by simpa using h1), if_neg h1]
      by_cases h2 : 128 ≤ x
      · rw [if_pos h2, if_pos h2]
        have := nums_rdN r (k + 1) (n * 128 + (x - 128)) (.inl (by omega))
        rw [show decide (k + 1 ≠ 0) = true by simp] at this
        rw [this]
        cases hr : rdN (k + 1) (n * 128 + (x - 128)) r with
        | none => rfl
        | some p =>
          obtain ⟨m, s⟩ := p
          have := (rdN_size r _ _ _ _ hr).1
          simp only [Option.bind_some]
          rw [show s - k = (s - (k + 1)) + 1 by omega, List.drop_succ_cons]
      · rw [if_neg h2, if_neg h2]
        simp
theorem rdN_le : ∀ (xs : List Int) (k : Nat) (n m : Int) (s : Nat), U8 xs → 0 ≤ n → rdN k n xs = some (m, s) → 0 ≤ m ∧ m ≤ maxN
  | [], _, _, _, _, _, _, h => by cases h
  | x :: r, k, n, m, s, hu, h0, h => by
    have hx := hu.head
    rw [rdN] at h
    split at h
    · cases h
    split at h
    · exact rdN_le r _ _ _ _ hu.tail (by omega) h
    · injection h with h
      injection h with h1 _
      unfold maxN
      omega

theorem groups_nil : groups [] = [] := rfl
theorem groups_cons (m : Int) (ms : List Int) : groups (m :: ms) = sept m.toNat ++ groups ms := by simp [groups]

theorem nums_hi : ∀ (c m : Nat) (zs : List Int), m ≤ c → m ≠ 0 → m ≤ 72057594037927935 → numsS false 0 (septHi m ++ zs) = numsS true m zs
  | 0, m, zs, h, h0, _ => absurd (by omega) h0
  | c + 1, m, zs, h, h0, hm => by
    rw [septHi_pos h0, List.append_assoc]
    by_cases h1 : m / 128 = 0
    · rw [h1, septHi_zero, List.nil_append, List.singleton_append, numsS, if_neg (by omega), if_pos (by omega)]
      congr 1
      omega
    · rw [nums_hi c (m / 128) _ (by omega) h1 (by omega), List.singleton_append, numsS, if_neg (by simp; omega), if_pos (by omega)]
      congr 1
      omega

theorem nums_sept (m : Int) (zs : List Int) (h0 : 0 ≤ m) (h1 : m ≤ maxN) : numsS false 0 (sept m.toNat ++ zs) = (numsS false 0 zs).map fun ms => m :: ms := by
  unfold maxN at h1
  obtain ⟨n, rfl⟩ := Int.eq_ofNat_of_zero_le h0
  rw [Int.toNat_natCast]
  unfold sept
  rw [List.append_assoc, List.singleton_append]
  by_cases hz : n / 128 = 0
  · rw [hz, septHi_zero, List.nil_append, numsS, if_neg (by omega), if_neg (by omega)]
    congr 1
    funext ms
    congr 1
    omega
  · rw [nums_hi _ _ _ (Nat.le_refl _) hz (by omega), numsS, if_neg (by simp; omega), if_neg (by omega)]
    congr 1
    funext ms
    congr 1
    omega

theorem nums_groups : ∀ (ms : List Int), (∀ m ∈ ms, 0 ≤ m ∧ m ≤ maxN) → numsS false 0 (groups ms) = some ms
  | [], _ => by simp [groups_nil, numsS]
  | m :: ms, h => by
    have hm := h m (List.mem_cons_self ..)
    rw [groups_cons, nums_sept m _ hm.1 hm.2, nums_groups ms fun x hx => h x (List.mem_cons_of_mem _ hx)]
    rfl

theorem nums_only : ∀ (xs : List Int) (o : Bool) (n : Int) (ms : List Int), U8 xs → numsS o n xs = some ms → 0 ≤ n → (o = false → n = 0) → (o = true → n ≠ 0) → n ≤ maxN →
    septHi n.toNat ++ xs = groups ms ∧ ∀ m ∈ ms, 0 ≤ m ∧ m ≤ maxN
  | [], o, n, ms, _, h, h0, ho, _, _ => by
    rw [numsS] at h
    split at h
    · cases h
    · rename_i hc
      injection h with h
      subst h
      rw [ho (by simpa using hc)]
      exact ⟨by simp [septHi_zero, groups_nil], fun m hm => by cases hm⟩
  | x :: r, o, n, ms, hu, h, h0, ho, ho1, hn => by
    have hx := hu.head
    rw [numsS] at h
    split at h
    · cases h
    · rename_i hc
      have hn2 : n ≤ 72057594037927935 := by omega
      split at h
      · rename_i hx1
        have hne : n * 128 + (x - 128) ≠ 0 := by
          cases o
          · have := ho rfl
            have : x ≠ 128 := fun hh => hc (.inl ⟨rfl, hh⟩)
            omega
          · have := ho1 rfl
            omega
        obtain ⟨i1, i2⟩ := nums_only r true (n * 128 + (x - 128)) ms hu.tail h (by omega) (fun hh => by cases hh) (fun _ => hne) (by unfold maxN; omega)
        refine ⟨?_, i2⟩
        rw [← i1]
        have hs := septHi_step n.toNat (x - 128).toNat (by omega) (by omega)
        rw [show n.toNat * 128 + (x - 128).toNat = (n * 128 + (x - 128)).toNat by omega] at hs
        rw [hs, List.append_assoc, List.singleton_append]
        congr 2
        omega
      · rename_i hx1
        cases hr : numsS false 0 r with
        | none => rw [hr] at h; cases h
        | some ks =>
          rw [hr] at h
          injection h with h
          subst h
          obtain ⟨i1, i2⟩ := nums_only r false 0 ks hu.tail hr (by omega) (fun _ => rfl) (fun hh => by cases hh) (by unfold maxN; omega)
          rw [show (0 : Int).toNat = 0 from rfl, septHi_zero, List.nil_append] at i1
          refine ⟨?_, fun m hm => ?_⟩
          · rw [groups_cons, ← i1]
            unfold sept
            rw [List.append_assoc, List.singleton_append, show (n * 128 + x).toNat / 128 = n.toNat by omega]
            congr 2
            omega
          · rcases List.mem_cons.1 hm with rfl | hm
            · unfold maxN; omega
            · exact i2 m hm

theorem oidOk_iff (a b : Int) (r : List Int) : oidOk (a :: b :: r) = true ↔ (r.length ≤ 38 ∧ 0 ≤ a ∧ a ≤ 2 ∧ (a < 2 → b ≤ 39) ∧ 0 ≤ b ∧ b ≤ maxN - 80) ∧ ∀ x ∈ r, 0 ≤ x ∧ x ≤ maxN := by
  simp only [oidOk, Bool.and_eq_true, decide_eq_true_eq, List.all_eq_true]

theorem guardS_some {l k : List Int} (h : guardS l = some k) : l = k ∧ oidOk k = true := by
  unfold guardS at h
  split at h
  · injection h with h; subst h; rename_i hh; exact ⟨rfl, hh⟩
  · cases h

/-- what is written as bytes is read -/
theorem read_back (l : List Int) (h : oidOk l = true) : readS (contentS l) = some l := by
  match l, h with
  | [], h => simp [oidOk] at h
  | [_], h => simp [oidOk] at h
  | a :: b :: r, h =>
    obtain ⟨⟨h1, h2, h3, h4, h5, h6⟩, h7⟩ := (oidOk_iff a b r).1 h
    unfold readS contentS
    rw [nums_groups _ (fun m hm => by
      rcases List.mem_cons.1 hm with rfl | hm
      · unfold maxN at h6 ⊢; omega
      · exact h7 m hm)]
    show guardS (firstTwo ((40 * a + b) :: r)) = _
    have e : firstTwo ((40 * a + b) :: r) = a :: b :: r := by
      show min ((40 * a + b) / 40) 2 :: (40 * a + b - 40 * min ((40 * a + b) / 40) 2) :: r = a :: b :: r
      have e1 : min ((40 * a + b) / 40) 2 = a := by omega
      rw [e1, show 40 * a + b - 40 * a = b by omega]
    rw [e]
    unfold guardS
    rw [if_pos h]

/-- what is read of bytes is written to the same -/
theorem read_only (b l : List Int) (hu : U8 b) (h : readS b = some l) : oidOk l = true ∧ contentS l = b := by
  unfold readS at h
  cases hn : numsS false 0 b with
  | none => rw [hn] at h; cases h
  | some ms =>
    rw [hn] at h
    obtain ⟨e, hok⟩ := guardS_some (show guardS (firstTwo ms) = some l from h)
    obtain ⟨i1, _⟩ := nums_only b false 0 ms hu hn (by omega) (fun _ => rfl) (fun hh => by cases hh) (by unfold maxN; omega)
    rw [show (0 : Int).toNat = 0 from rfl, septHi_zero, List.nil_append] at i1
    refine ⟨hok, ?_⟩
    cases ms with
    | nil => rw [← e] at hok; simp [firstTwo, oidOk] at hok
    | cons m ms =>
      rw [← e]
      show groups ((40 * min (m / 40) 2 + (m - 40 * min (m / 40) 2)) :: ms) = b
      rw [show 40 * min (m / 40) 2 + (m - 40 * min (m / 40) 2) = m by omega]
      exact i1.symm

theorem decS_small {n : Nat} (h : n < 10) : decS n = [48 + (n : Int)] := by rw [decS, if_pos h]
theorem decS_on {n : Nat} (h : ¬ n < 10) : decS n = decS (n / 10) ++ [48 + ((n % 10 : Nat) : Int)] := by rw [decS, if_neg h]

theorem numsT_dec : ∀ (c n : Nat) (zs : List Int), n ≤ c → (n : Int) ≤ maxN → numsT false false 0 (decS n ++ zs) = numsT true (decide (n = 0)) n zs
  | c, n, zs, h, hm => by
    by_cases h10 : n < 10
    · rw [decS_small h10, List.singleton_append, numsT, if_neg (by omega), if_neg (by simp; unfold maxN; omega)]
      congr 1
      · simp; omega
      · omega
    · match c with
      | 0 => omega
      | c + 1 =>
        rw [decS_on h10, List.append_assoc, numsT_dec c (n / 10) _ (by omega) (by omega), List.singleton_append, numsT, if_neg (by omega), if_neg (by
          have : ¬ n / 10 = 0 := by omega
          simp [this]
          unfold maxN at hm ⊢
          omega)]
        congr 1
        · simp; omega
        · omega

/-- what is written as a text is read -/
theorem text_back : ∀ (l : List Int), l ≠ [] → (∀ x ∈ l, 0 ≤ x ∧ x ≤ maxN) → numsT false false 0 (textS l) = some l
  | [], h, _ => absurd rfl h
  | [m], _, h => by
    obtain ⟨h0, h1⟩ := h m (List.mem_cons_self ..)
    obtain ⟨n, rfl⟩ := Int.eq_ofNat_of_zero_le h0
    have := numsT_dec n n [] (Nat.le_refl _) h1
    rw [List.append_nil] at this
    show numsT false false 0 (decS (n : Int).toNat) = _
    rw [Int.toNat_natCast, this, numsT, if_pos rfl]
  | m :: k :: r, _, h => by
    obtain ⟨h0, h1⟩ := h m (List.mem_cons_self ..)
    obtain ⟨n, rfl⟩ := Int.eq_ofNat_of_zero_le h0
    show numsT false false 0 (decS (n : Int).toNat ++ 46 :: textS (k :: r)) = _
    rw [Int.toNat_natCast, numsT_dec n n _ (Nat.le_refl _) h1, numsT, if_pos rfl, if_pos rfl, text_back (k :: r) (by simp) fun x hx => h x (List.mem_cons_of_mem _ hx)]
    rfl

theorem textS_on (m : Int) {ks : List Int} (h : ks ≠ []) : textS (m :: ks) = decS m.toNat ++ 46 :: textS ks := by
  match ks, h with
  | k :: r, _ => rfl

theorem text_only : ∀ (xs pre : List Int) (c z : Bool) (n : Int) (ms : List Int), numsT c z n xs = some ms → 0 ≤ n → n ≤ maxN → (c = false → pre = [] ∧ n = 0 ∧ z = false) → (c = true → pre = decS n.toNat ∧ z = decide (n = 0)) →
    pre ++ xs = textS ms ∧ ms ≠ [] ∧ ∀ m ∈ ms, 0 ≤ m ∧ m ≤ maxN
  | [], pre, c, z, n, ms, h, h0, h1, _, ht => by
    rw [numsT] at h
    split at h
    · rename_i hc
      injection h with h
      subst h
      rw [List.append_nil, (ht hc).1]
      exact ⟨rfl, by simp, fun m hm => by simp at hm; subst hm; exact ⟨h0, h1⟩⟩
    · cases h
  | x :: r, pre, c, z, n, ms, h, h0, h1, hf, ht => by
    rw [numsT] at h
    split at h
    · rename_i hx
      subst hx
      split at h
      · rename_i hc
        cases hr : numsT false false 0 r with
        | none => rw [hr] at h; cases h
        | some ks =>
          rw [hr] at h
          injection h with h
          subst h
          obtain ⟨i1, i2, i3⟩ := text_only r [] false false 0 ks hr (by omega) (by unfold maxN; omega) (fun _ => ⟨rfl, rfl, rfl⟩) (fun hh => by cases hh)
          rw [List.nil_append] at i1
          refine ⟨?_, by simp, fun m hm => ?_⟩
          · rw [textS_on n i2, (ht hc).1, i1]
          · rcases List.mem_cons.1 hm with rfl | hm
            · exact ⟨h0, h1⟩
            · exact i3 m hm
      · cases h
    · split at h
      · cases h
      · rename_i hx hd
        have hz : z = false := by
          cases z
          · rfl
          · exact absurd (.inr (.inr (.inl rfl))) hd
        have hov : ¬ maxN < 10 * n + (x - 48) := fun hh => hd (.inr (.inr (.inr hh)))
        have hlo : ¬ x < 48 := fun hh => hd (.inl hh)
        have hhi : ¬ 57 < x := fun hh => hd (.inr (.inl hh))
        have key := text_only r (pre ++ [x]) true (!c && decide (x = 48)) (10 * n + (x - 48)) ms h (by omega) (by omega) (fun hh => by cases hh) (fun _ => by
          cases c
          · obtain ⟨rfl, rfl, _⟩ := hf rfl
            refine ⟨?_, by simp; omega⟩
            rw [List.nil_append, decS_small (by omega)]
            congr 1
            omega
          · obtain ⟨rfl, e2⟩ := ht rfl
            have hn : n ≠ 0 := by
              intro hh
              rw [hh, hz] at e2
              simp at e2
            refine ⟨?_, by simp; omega⟩
            rw [decS_on (n := (10 * n + (x - 48)).toNat) (by omega), show (10 * n + (x - 48)).toNat / 10 = n.toNat by omega]
            congr 2
            omega)
        rw [List.append_assoc, List.singleton_append] at key
        exact key

theorem oid_all {l : List Int} (h : oidOk l = true) : l ≠ [] ∧ ∀ x ∈ l, 0 ≤ x ∧ x ≤ maxN := by
  match l, h with
  | [], h => simp [oidOk] at h
  | [_], h => simp [oidOk] at h
  | a :: b :: r, h =>
    obtain ⟨⟨h1, h2, h3, h4, h5, h6⟩, h7⟩ := (oidOk_iff a b r).1 h
    refine ⟨by simp, fun x hx => ?_⟩
    unfold maxN at h6 ⊢
    rcases List.mem_cons.1 hx with rfl | hx
    · omega
    · rcases List.mem_cons.1 hx with rfl | hx
      · omega
      · exact h7 x hx

theorem parse_back (l : List Int) (h : oidOk l = true) : parseS (textS l) = some l := by
  obtain ⟨h1, h2⟩ := oid_all h
  unfold parseS
  rw [text_back l h1 h2]
  show guardS l = _
  unfold guardS
  rw [if_pos h]
theorem parse_only (s l : List Int) (h : parseS s = some l) : oidOk l = true ∧ textS l = s := by
  unfold parseS at h
  cases hn : numsT false false 0 s with
  | none => rw [hn] at h; cases h
  | some ms =>
    rw [hn] at h
    obtain ⟨rfl, hok⟩ := guardS_some (show guardS ms = some l from h)
    obtain ⟨i1, _⟩ := text_only s [] false false 0 ms hn (by omega) (by unfold maxN; omega) (fun _ => ⟨rfl, rfl, rfl⟩) (fun hh => by cases hh)
    exact ⟨hok, i1.symm⟩

end Go.Proofs.YtihbgpgiladfkaaDoor
