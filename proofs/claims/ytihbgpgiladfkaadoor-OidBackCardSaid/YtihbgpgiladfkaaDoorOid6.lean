/- Contract of package oid's writer of an identifier's text: Text answers the numbers' digits with points between them, or why there is no text. -/
import Derived.Test.YtihbgpgiladfkaaDoorOid3
import Derived.Test.YtihbgpgiladfkaaDoorStrs
import Derived.Test.YtihbgpgiladfkaaDoorShelf
import Derived.Laws.MakeOwn
import Derived.Lib.AppendIntMem
namespace Go.Proofs.YtihbgpgiladfkaaDoor
open Go.RowKit

/-- The library's table of powers of ten holds what its text lays. -/
def Tab (w : World) : Prop := Lib.TabIs Tryd.prog w "internal/strconv.uint64pow10" .u64 Lib.pow10Tab
theorem Tab.below {w w' : World} (h : Tab w) (hb : Below w.heap.size w w') : Tab w' := (Lib.tabBelow_of_tabIs h) w' hb

def textX (xs : List Int) : List Int := if oidOk xs = true then textS xs else []
theorem dec_19 {x : Int} (h0 : 0 ≤ x) (h1 : x ≤ maxN) : (decS x.toNat).length ≤ 19 := by
  unfold maxN at h1
  exact decS_len 18 x.toNat (by omega)
theorem textS_len : ∀ (xs : List Int), (∀ x ∈ xs, 0 ≤ x ∧ x ≤ maxN) → (textS xs).length ≤ 20 * xs.length
  | [], _ => by simp [textS]
  | [x], h => by
    have := dec_19 (h x (List.mem_cons_self ..)).1 (h x (List.mem_cons_self ..)).2
    simp [textS]; omega
  | x :: y :: r, h => by
    have h1 := dec_19 (h x (List.mem_cons_self ..)).1 (h x (List.mem_cons_self ..)).2
    have h2 := textS_len (y :: r) fun z hz => h z (List.mem_cons_of_mem _ hz)
    rw [textS]
    simp at h2 ⊢; omega
theorem textS_u8 : ∀ (xs : List Int), U8 (textS xs)
  | [] => U8.nil
  | [x] => decS_u8 _ _ (Nat.le_refl _)
  | x :: y :: r => by
    rw [textS]
    exact (decS_u8 _ _ (Nat.le_refl _)).append (U8.cons (by omega) (textS_u8 (y :: r)))

def strV (x : Int) : Value := .string (strOf (decS x.toNat))
def cellsAt (xs : List Int) (k : Nat) : List Value := (xs.take k).map strV ++ List.replicate (xs.length - k) (.string ⟨#[]⟩)
theorem cellsAt_get {xs : List Int} {k : Nat} (h : k < xs.length) : (cellsAt xs k)[k]? = some (.string ⟨#[]⟩) := by
  unfold cellsAt
  have e : ((xs.take k).map strV).length = k := by rw [List.length_map, List.length_take]; omega
  rw [List.getElem?_append_right (by omega), e, Nat.sub_self, show xs.length - k = (xs.length - (k + 1)) + 1 by omega]
  rfl
theorem cellsAt_set {xs : List Int} {k : Nat} {x : Int} (h : k < xs.length) (hx : x = xs.getD k 0) : (cellsAt xs k).set k (strV x) = cellsAt xs (k + 1) := by
  unfold cellsAt
  have e : ((xs.take k).map strV).length = k := by rw [List.length_map, List.length_take]; omega
  rw [List.set_append_right _ _ (by omega), e, Nat.sub_self, show xs.length - k = (xs.length - (k + 1)) + 1 by omega, List.replicate_succ, List.set_cons_zero, List.take_add_one, hx, List.getD_eq_getElem?_getD, List.getElem?_eq_getElem h]
  simp only [List.map_append, List.append_assoc, Option.getD_some, Option.toList_some, List.map_cons, List.map_nil, List.cons_append, List.nil_append]
theorem cellsAt_end (xs : List Int) : cellsAt xs xs.length = xs.map strV := by
  unfold cellsAt
  simp

theorem joinAt (B n c : Nat) (m : Int) (r : List Int) (w : World) (hn : n = (m :: r).length) (hc : n ≤ c) (hb : Box 9 ((m :: r).map strV) B w) (h : ∀ x ∈ m :: r, 0 ≤ x ∧ x ≤ maxN) (hl : n ≤ 1000) :
    Calls Tryd.prog 23 #[.slice (some ⟨B, 0, none⟩) n c, .string ⟨#[46]⟩] w fun e w' => e = .returned (.string (strOf (textS (m :: r)))) ∧ Below w.heap.size w w' := by
  obtain ⟨ss, hss⟩ : ∃ ss, ss = (m :: r).map fun x => strOf (decS x.toNat) := ⟨_, rfl⟩
  have hsl : ss.length = n := by rw [hss, List.length_map, hn]
  have hj := join_text m r ss hss (fun x _ => decS_u8 _ _ (Nat.le_refl _))
  have hlen : (Lib.join (ss.map (·.data.toList)) [46]).length = (textS (m :: r)).length := by
    have := congrArg ByteArray.size hj
    rw [strOf_len] at this
    rw [← this]
    simp [ByteArray.size]
  have htl := textS_len (m :: r) h
  rw [← hn] at htl
  have key := Tryd.strings_Join B 0 c ss ⟨#[46]⟩ w (fun j x hj => by
    rw [Nat.zero_add, hb.cell j]
    rw [hss, List.getElem?_map] at hj
    rw [List.getElem?_map]
    cases hx : (m :: r)[j]? with
    | none => rw [hx] at hj; cases hj
    | some y =>
      rw [hx] at hj
      simp only [Option.map_some, Option.some.injEq] at hj ⊢
      rw [← hj]
      rfl) hb.lt (by omega) (by omega) (by
    show (Lib.join (ss.map (·.data.toList)) [46]).length ≤ _
    rw [hlen]
    omega)
  rw [hsl] at key
  refine key.mono fun e w' ⟨he, hbel⟩ => ⟨?_, hbel⟩
  rw [he, ← hj]

theorem Tryd.infoStr : (Tryd.prog.info? 9).map (fun i => (i.zero, i.size, i.bytes)) = some (some (.string ⟨#[]⟩), 1, 16) := by kernel_rfl
theorem make_strs (n : Nat) (hn : n ≤ 1000) (w : World) : (Instr.makeSlice 47 (.int .i64 (n : Int)) (.int .i64 (n : Int))).run Tryd.prog w = .ok (.slice (some ⟨w.heap.size, 0, none⟩) n n) (w.alloc (.cells (List.replicate n (Value.string ⟨#[]⟩)).toArray 9)) := by
  obtain ⟨i, hi, hz0, hz1, hz2⟩ := info_parts Tryd.infoStr
  have := run_make (P := Tryd.prog) w 47 9 i (.string ⟨#[]⟩) Tryd.underlying47 hi hz0 .i64 .i64 (n : Int) (n : Int) (by omega) (by omega) (by rw [hz2]; omega) (by omega)
  rw [this, hz1]
  have e : madeCells (Value.string ⟨#[]⟩).cells ((n : Int).toNat * 1) = (List.replicate n (Value.string ⟨#[]⟩)).toArray := by
    apply Array.ext
    · simp [madeCells]
    · intro j h1 h2
      simp [madeCells, Value.cells, Nat.mod_one]
  rw [e]
  rfl

set_option maxHeartbeats 1000000 in
theorem oidText (v : Value) (xs : List Int) (w : World) (h : Sl .i64 w v xs) (hi : I64 xs) (ht : Tab w) :
    Calls Tryd.prog 9 #[v] w fun e w' => e = .returned (.tuple #[.string (strOf (textX xs)), .int .i64 (chk xs)]) ∧ Below w.heap.size w w' := by
  cases hok : oidOk xs with
  | false =>
    have H := hid h
    have hc := chk_bad hok
    obtain ⟨a, cap, ha, -, -, -⟩ := h
    have hx : textX xs = [] := by simp [textX, hok]
    rw [hx, hc]
    have HC := hid hc
    clear hx hc hok
    subst ha
    go_enter Tryd.func9, Tryd.ntmps9
    go_wp2_with (go_at_call 16; refine (oidCheck _ xs _ H.out hi).mono ?_; rw [HC.out]; rintro e w' ⟨rfl, n, rfl⟩)
    go_ret2
    exact ⟨rfl, below_drewN _⟩
  | true =>
    match xs, h, hi, hok with
    | a :: b :: r, h, hi, hok =>
      have hc := chk_ok hok
      obtain ⟨⟨h1, h2, h3, h4, h5, h6⟩, h7⟩ := (oidOk_iff a b r).1 hok
      have hall : ∀ x ∈ a :: b :: r, 0 ≤ x ∧ x ≤ maxN := by
        intro x hx
        unfold maxN at h6 h7 ⊢
        rcases List.mem_cons.1 hx with rfl | hx
        · omega
        rcases List.mem_cons.1 hx with rfl | hx
        · omega
        exact h7 x hx
      have hcx : textX (a :: b :: r) = textS (a :: b :: r) := by simp [textX, hok]
      rw [hcx, hc]
      have HC := hid hc
      have H := hid h
      have HA := hid hall
      have hl2 : (a :: b :: r).length ≤ 40 := by simp; omega
      clear hcx hc hok h7 hall h1 h2 h3 h4 h5 h6
      obtain ⟨xs, hxs⟩ : ∃ xs, xs = a :: b :: r := ⟨_, rfl⟩
      rw [← hxs] at h hi HC H HA hl2 ⊢
      have HXS := hid hxs
      clear hxs
      obtain ⟨ad, cap, rfl, q, qm, h⟩ := h
      clear qm
      have C := hid h
      clear h
      obtain ⟨len, hlen⟩ : ∃ len, len = xs.length := ⟨_, rfl⟩
      rw [← hlen] at C H hl2 q ⊢
      have HL := hid hlen
      have HQ := hid q
      clear hlen q
      have hmk := make_strs len (by omega)
      go_enter Tryd.func9, Tryd.ntmps9
      go_wp2_with (go_at_call 16; refine (oidCheck _ xs _ H.out hi).mono ?_; rw [HC.out]; rintro e w' ⟨rfl, n, rfl⟩)
      have HB1 : Hid (Box 9 (cellsAt xs 0) w.heap.size ((w.drewN n).alloc (.cells (Array.replicate len (.string ⟨#[]⟩)) 9))) := by
        have := Box.made (w.drewN n) 9 (List.replicate len (Value.string ⟨#[]⟩))
        unfold cellsAt
        rw [← HL.out]
        simpa [Hid] using this
      have HW1 : Hid (Below w.heap.size w ((w.drewN n).alloc (.cells (Array.replicate len (.string ⟨#[]⟩)) 9))) := hid (by (repeat (first | exact Below.refl _ _ | exact below_drewN _ | refine Below.drew ?_ | refine Below.alloc ?_ (by simp) _ | refine Below.setCell ?_ (by simp) _ | refine below_drewN' ?_ _)))
      generalize (w.drewN n).alloc (.cells (Array.replicate len (.string ⟨#[]⟩)) 9) = w1 at HB1 HW1 ⊢
      clear hmk
      go_loopw [18] (fun iv wr => ∃ k : Nat, k ≤ len ∧ iv = .int .i64 k ∧ Hid (Box 9 (cellsAt xs k) w.heap.size wr) ∧ Hid (Below w.heap.size w wr)) (fun iv _ => len - (intOf iv).toNat)
      case atStart => exact ⟨0, by omega, rfl, HB1.out, HW1.out⟩
      case round =>
        obtain ⟨k, hk, rfl, hbox, hbel⟩ := hrel
        by_cases hlt : k < len
        · rcases C.out with hc0 | ⟨b3, o3, ha3, hb3, c3'⟩
          · have := HQ.out
            omega
          subst ha3
          obtain ⟨x, hx⟩ : ∃ x, x = xs.getD k 0 := ⟨_, rfl⟩
          have hkl : k < xs.length := by rw [← HL.out]; exact hlt
          have dk := (hbel.out.cell (p := ⟨b3, o3 + k, none⟩) (hb3 (by omega))).trans (c3' k hlt)
          rw [← hx] at dk
          have hxm : x ∈ xs := by rw [hx, List.getD_eq_getElem?_getD, List.getElem?_eq_getElem hkl]; exact List.getElem_mem hkl
          obtain ⟨x0, x1⟩ := HA.out x hxm
          have HX := hid hx
          have HK := hid hkl
          clear hx hkl hxm
          unfold maxN at x1
          go_wp2_with (first
            | (go_at_call 22; refine (Tryd.strconv_Itoa x (by omega) x1 wr (ht.below hbel.out)).mono ?_; rintro e w2 ⟨rfl, kk, os, rfl⟩; rw [itoa_str x0]; have HB2 := hid (hbox.out.below (Lib.below_grow wr.heap.size wr (Nat.le_refl _) kk os) hbox.out.lt); have HW2 := hid (hbel.out.trans (Lib.below_grow w.heap.size wr hbel.out.size kk os)); generalize Go.Sort.grow (wr.drewN kk) os = w2 at HB2 HW2 ⊢; have c9 : w2.cell? ⟨w.heap.size, k, none⟩ = some (.string ⟨#[]⟩) := (HB2.out.cell k).trans (cellsAt_get HK.out); have f9 := HB2.out.ice k))
          go_roundw
          case rel =>
            refine ⟨k + 1, by omega, by go_num, ?_, ?_⟩
            · have := HB2.out.set k (strV x)
              rw [cellsAt_set HK.out HX.out] at this
              exact this
            · exact HW2.out.setCell (Nat.le_refl _) _
          case measure => simp [intOf]; omega
        · obtain rfl : k = len := by omega
          obtain ⟨B, hB⟩ : ∃ B, B = w.heap.size := ⟨_, rfl⟩
          have HF : Hid (Box 9 ((a :: b :: r).map strV) w.heap.size wr) := by
            have := hbox.out
            rw [HL.out, cellsAt_end, HXS.out] at this
            exact this
          go_wp2_with (go_at_call 23; refine (joinAt w.heap.size k k a (b :: r) wr (by rw [HL.out, HXS.out]) (Nat.le_refl _) HF.out (by rw [← HXS.out]; exact HA.out) (by omega)).mono ?_; rw [← HXS.out]; rintro e w3 ⟨rfl, hb3⟩)
          go_ret2
          exact ⟨rfl, hbel.out.trans (hb3.mono hbel.out.size)⟩
end Go.Proofs.YtihbgpgiladfkaaDoor
