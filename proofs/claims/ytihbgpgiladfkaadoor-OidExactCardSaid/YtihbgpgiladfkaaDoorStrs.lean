/- Strings as lists of numbers: their bytes, made of such a list, put together, cut at a byte; a number's digits. No conditions. -/
import Derived.Test.YtihbgpgiladfkaaDoorOidSpec
import Derived.Lib.ItoaNum
import Derived.Lib.Join
import Derived.Lib.IndexMore
import Derived.Lib.IndexBytes
namespace Go.Proofs.YtihbgpgiladfkaaDoor
open Go.RowKit

def i8 (l : List UInt8) : List Int := l.map fun b => (b.toNat : Int)
/-- a string's bytes -/
def sx (s : ByteArray) : List Int := i8 s.data.toList
/-- the bytes of a list of numbers -/
def b8 (xs : List Int) : List UInt8 := xs.map fun x => UInt8.ofNat x.toNat
def strOf (xs : List Int) : ByteArray := ⟨(b8 xs).toArray⟩

theorem i8_u8 (l : List UInt8) : U8 (i8 l) := fun x hx => by
  obtain ⟨b, _, rfl⟩ := List.mem_map.1 hx
  have := b.toNat_lt
  omega
theorem sx_u8 (s : ByteArray) : U8 (sx s) := i8_u8 _
theorem b8_i8 (l : List UInt8) : b8 (i8 l) = l := by
  unfold b8 i8
  rw [List.map_map]
  refine (List.map_congr_left (fun b _ => ?_)).trans (List.map_id l)
  simp
theorem i8_b8 {xs : List Int} (h : U8 xs) : i8 (b8 xs) = xs := by
  unfold b8 i8
  rw [List.map_map]
  refine (List.map_congr_left (fun x hx => ?_)).trans (List.map_id xs)
  have := h x hx
  simp [UInt8.toNat_ofNat']
  omega
theorem strOf_i8 (l : List UInt8) : strOf (i8 l) = ⟨l.toArray⟩ := by unfold strOf; rw [b8_i8]
theorem strOf_sx (s : ByteArray) : strOf (sx s) = s := by
  unfold sx
  rw [strOf_i8]
theorem sx_strOf {xs : List Int} (h : U8 xs) : sx (strOf xs) = xs := by
  unfold sx strOf
  simpa using i8_b8 h
theorem sx_len (s : ByteArray) : (sx s).length = s.size := by
  show (List.map _ s.data.toList).length = s.data.size
  rw [List.length_map, Array.length_toList]
theorem strOf_len (xs : List Int) : (strOf xs).size = xs.length := by simp [strOf, b8, ByteArray.size]
theorem sx_inj {s t : ByteArray} (h : sx s = sx t) : s = t := by rw [← strOf_sx s, h, strOf_sx]
theorem sx_get (s : ByteArray) (i : Nat) (h : i < s.size) : (sx s).getD i 0 = ((s.data[i]'h).toNat : Int) := by
  have h' : i < s.data.toList.length := h
  rw [List.getD_eq_getElem?_getD]
  simp [sx, i8]
  rw [Array.getElem?_eq_getElem h]
  rfl
theorem i8_append (a b : List UInt8) : i8 (a ++ b) = i8 a ++ i8 b := by simp [i8]
theorem b8_append (a b : List Int) : b8 (a ++ b) = b8 a ++ b8 b := by simp [b8]

theorem i8_dec : ∀ (c n : Nat), n ≤ c → i8 (Lib.decDigits n) = decS n
  | c, n, h => by
    by_cases h10 : n < 10
    · rw [Lib.decDigits, dif_pos h10, decS_small h10]
      simp [i8, UInt8.toNat_ofNat']
      omega
    · match c with
      | 0 => omega
      | c + 1 =>
        rw [Lib.decDigits, dif_neg h10, decS_on h10, i8_append, i8_dec c (n / 10) (by omega)]
        simp [i8, UInt8.toNat_ofNat']
        omega
theorem i8_itoa {n : Int} (h : 0 ≤ n) : i8 (Lib.itoa n) = decS n.toNat := by
  unfold Lib.itoa
  rw [if_neg (by omega), i8_dec _ _ (Nat.le_refl _)]
theorem itoa_str {n : Int} (h : 0 ≤ n) : (⟨(Lib.itoa n).toArray⟩ : ByteArray) = strOf (decS n.toNat) := by
  rw [← i8_itoa h, strOf_i8]

theorem i8_tail (sep : List UInt8) : ∀ (r : List (List UInt8)), i8 (Lib.joinTail sep r) = ((r.map i8).map (i8 sep ++ ·)).flatten
  | [] => rfl
  | x :: r => by
    have := i8_tail sep r
    unfold Lib.joinTail at this ⊢
    simp only [List.map_cons, List.flatten_cons, i8_append, this]
theorem textS_tail : ∀ (m : Int) (r : List Int), textS (m :: r) = decS m.toNat ++ ((r.map fun x => decS x.toNat).map ([46] ++ ·)).flatten
  | m, [] => by simp [textS]
  | m, k :: r => by
    rw [textS, textS_tail k r]
    simp
theorem join_text (m : Int) (r : List Int) (ss : List ByteArray) (h : ss = (m :: r).map fun x => strOf (decS x.toNat)) (hu : ∀ x ∈ m :: r, U8 (decS x.toNat)) :
    (⟨(Lib.join (ss.map (·.data.toList)) [46]).toArray⟩ : ByteArray) = strOf (textS (m :: r)) := by
  subst h
  rw [List.map_map, List.map_cons, Lib.join_cons]
  rw [← strOf_i8, i8_append, i8_tail]
  congr 1
  rw [textS_tail]
  congr 1
  · exact sx_strOf (hu m (List.mem_cons_self ..))
  · congr 1
    rw [List.map_map, List.map_map, List.map_map]
    refine List.map_congr_left fun x hx => ?_
    show i8 [46] ++ i8 _ = [46] ++ _
    congr 1
    exact sx_strOf (hu x (List.mem_cons_of_mem _ hx))
theorem decS_u8 : ∀ (c n : Nat), n ≤ c → U8 (decS n)
  | c, n, h => by
    by_cases h10 : n < 10
    · rw [decS_small h10]
      exact U8.cons (by omega) U8.nil
    · match c with
      | 0 => omega
      | c + 1 =>
        rw [decS_on h10]
        exact (decS_u8 c (n / 10) (by omega)).append (U8.cons (by omega) U8.nil)
theorem decS_len : ∀ (c n : Nat), n < 10 ^ (c + 1) → (decS n).length ≤ c + 1
  | c, n, h => by
    by_cases h10 : n < 10
    · rw [decS_small h10]; simp
    · match c with
      | 0 => simp at h; omega
      | c + 1 =>
        rw [decS_on h10]
        have := decS_len c (n / 10) (by rw [Nat.pow_succ] at h; omega)
        simp; omega

/-! ### cut at a point -/
/-- what stands ahead of the first point, what stands behind it -/
def cutP : List Int → List Int × Option (List Int)
  | [] => ([], none)
  | x :: r => if x = 46 then ([], some r) else (x :: (cutP r).1, (cutP r).2)
theorem cutP_parts : ∀ (xs : List Int), xs = (cutP xs).1 ++ (match (cutP xs).2 with | none => [] | some r => 46 :: r)
  | [] => rfl
  | x :: r => by
    have := cutP_parts r
    rw [cutP]
    split
    · rename_i h; subst h; rfl
    · simp only [List.cons_append]
      rw [← this]
theorem cutP_clean : ∀ (xs : List Int), ∀ x ∈ (cutP xs).1, x ≠ 46
  | [], x, hx => by cases hx
  | y :: r, x, hx => by
    rw [cutP] at hx
    split at hx
    · cases hx
    · rename_i h
      rcases List.mem_cons.1 hx with rfl | hx
      · exact h
      · exact cutP_clean r x hx
theorem cutP_less {xs ys : List Int} (h : (cutP xs).2 = some ys) : ys.length < xs.length := by
  have := congrArg List.length (cutP_parts xs)
  rw [h] at this
  simp at this
  omega
theorem cut_lib : ∀ (l : List UInt8), (i8 (Lib.cut l [46]).1 = (cutP (i8 l)).1) ∧ (match (cutP (i8 l)).2 with
    | none => (Lib.cut l [46]).2 = ([], false)
    | some r => (Lib.cut l [46]).2.2 = true ∧ i8 (Lib.cut l [46]).2.1 = r)
  | [] => by simp [Lib.cut, Lib.index, i8, cutP]
  | b :: l => by
    have ih := cut_lib l
    have hge := Lib.index_ge l [46]
    by_cases hb : b = 46
    · subst hb
      have h1 : Lib.index (46 :: l) [46] = 0 := by simp [Lib.index]
      unfold Lib.cut
      rw [h1]
      simp [i8, cutP]
    · have hb2 : (b.toNat : Int) ≠ 46 := by
        intro h
        apply hb
        apply UInt8.toNat_inj.1
        exact_mod_cast h
      have hc : cutP (i8 (b :: l)) = ((b.toNat : Int) :: (cutP (i8 l)).1, (cutP (i8 l)).2) := by
        show cutP ((b.toNat : Int) :: i8 l) = _
        rw [cutP, if_neg hb2]
      have hpre : List.isPrefixOf [46] (b :: l) = false := by
        simp [List.isPrefixOf]
        exact fun h => hb h.symm
      have hi : Lib.index (b :: l) [46] = if Lib.index l [46] == -1 then -1 else Lib.index l [46] + 1 := by
        rw [Lib.index, if_neg (by rw [hpre]; simp)]
      rw [hc]
      by_cases hn : Lib.index l [46] = -1
      · have e1 : Lib.cut l [46] = (l, [], false) := by unfold Lib.cut; rw [if_neg (by omega)]
        have e2 : Lib.cut (b :: l) [46] = (b :: l, [], false) := by unfold Lib.cut; rw [hi, hn]; rfl
        rw [e1] at ih
        rw [e2]
        obtain ⟨i1, i2⟩ := ih
        refine ⟨by simp only; rw [← i1]; rfl, ?_⟩
        revert i2
        cases (cutP (i8 l)).2 with
        | none => intro _; rfl
        | some r => intro h; exact absurd h.1 (by simp)
      · obtain ⟨m, hm⟩ := Int.eq_ofNat_of_zero_le (show 0 ≤ Lib.index l [46] by omega)
        have e1 : Lib.cut l [46] = (l.take m, l.drop (m + 1), true) := by unfold Lib.cut; rw [hm, if_pos (by omega)]; rfl
        have e2 : Lib.cut (b :: l) [46] = (b :: l.take m, l.drop (m + 1), true) := by
          unfold Lib.cut
          have : Lib.index (b :: l) [46] = ((m + 1 : Nat) : Int) := by rw [hi, hm]; split <;> simp_all
          rw [this, if_pos (by omega)]
          rfl
        rw [e1] at ih
        rw [e2]
        obtain ⟨i1, i2⟩ := ih
        refine ⟨by simp only; rw [← i1]; rfl, ?_⟩
        revert i2
        cases (cutP (i8 l)).2 with
        | none => intro h; exact absurd (congrArg Prod.snd h) (by simp)
        | some r => intro h; exact h
end Go.Proofs.YtihbgpgiladfkaaDoor
