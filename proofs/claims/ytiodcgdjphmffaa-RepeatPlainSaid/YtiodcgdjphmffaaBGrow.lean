/- Package repeat: grown, compareRows, checkParts. -/
import Derived.Test.YtiodcgdjphmffaaBStrs
import Derived.Test.YtiodcgdjphmffaaBFirst
import Derived.Shelf.Small.Wraps
namespace Go.Proofs.Ytiodcgdjphmffaa
open Go.Shelf Go.RowKit

shelf_lay Lays.n122 Nm 122 at Try as Try.laysCi
theorem compareInt_any (x y : Int) (w : World) :
    Calls Try.prog 80 #[.int .i64 x, .int .i64 y] w fun e w' => e = .returned (.int .i64 (Lib.compareInt x y)) ∧ w' = w := Any.cmp_Compare_int Try.laysCi x y w
theorem contains_any (s sub : ByteArray) (w : World) (hm : ∃ m, w.cell? ⟨0, 0, none⟩ = some (.int .i64 m)) (hs : s.size < 4294967281) :
    Calls Try.prog 77 #[.string s, .string sub] w fun e w' => e = .returned (.bool (Lib.contains s.data.toList sub.data.toList)) ∧ w' = w :=
  let ⟨m, hm⟩ := hm
  Any.strings_Contains { Try.laysCo with } s sub m w hs hm
/-- The cell of the library's variable holds some number. -/
def MaxL (w : World) : Prop := ∃ m, w.cell? ⟨0, 0, none⟩ = some (.int .i64 m)
theorem MaxL.stays {w w' : World} (h : MaxL w) (hb : Below w.heap.size w w') : MaxL w' := let ⟨m, hm⟩ := h; ⟨m, cell_stays hb (Nat.le_refl _) hm⟩

/-- How much of a border overlaps with the end of a row, from so much on. -/
def B.ov (l b : List UInt8) : Nat → Nat
  | 0 => 0
  | k + 1 => if (b.take (k + 1)).isSuffixOf l then k + 1 else B.ov l b k
theorem B.ov_le (l b : List UInt8) : ∀ k, B.ov l b k ≤ k
  | 0 => Nat.le_refl _
  | k + 1 => by
    unfold B.ov
    split
    · exact Nat.le_refl _
    · exact Nat.le_succ_of_le (B.ov_le l b k)
def B.grow (r b : ByteArray) : ByteArray := if Lib.contains r.data.toList b.data.toList then r else r ++ b.extract (B.ov r.data.toList b.data.toList (min r.size b.size)) b.size
theorem B.grow_size (r b : ByteArray) : (B.grow r b).size ≤ r.size + b.size := by
  unfold B.grow
  split
  · omega
  · rw [B.size_append, B.size_extract]; omega

set_option maxHeartbeats 400000 in
set_option maxRecDepth 100000 in
theorem grown_any (r b : ByteArray) (w : World) (hm : MaxL w) (hr : r.size ≤ 2000) (hb : b.size ≤ 2000) :
    Calls Try.prog 72 #[.string r, .string b] w fun e w' => e = .returned (.string (B.grow r b)) ∧ Below w.heap.size w w' := by
  have CC := hid (contains_any r b w hm (by omega))
  by_cases hc : Lib.contains r.data.toList b.data.toList = true
  · have HV : Hid (B.grow r b = r) := hid (by unfold B.grow; rw [if_pos hc])
    rw [hc] at CC
    go_enter Try.func72, Try.ntmps72
    go_wp2_with (refine CC.out.mono ?_; rintro e w' ⟨rfl, rfl⟩)
    go_ret
    exact ⟨by rw [HV.out]; rfl, Below.refl _ _⟩
  · have HV : Hid (B.grow r b = r ++ b.extract (B.ov r.data.toList b.data.toList (min r.size b.size)) b.size) := hid (by unfold B.grow; rw [if_neg hc])
    rw [Bool.not_eq_true] at hc
    rw [hc] at CC
    clear hc
    have HS := hid (fun k w => hasSuffix_any r (b.extract 0 k) w (by omega))
    simp only [B.take_data] at HS
    have HOV : Hid (∀ k, (Lib.hasSuffix r.data.toList (b.data.toList.take (k + 1)) = true → B.ov r.data.toList b.data.toList (k + 1) = k + 1) ∧ (Lib.hasSuffix r.data.toList (b.data.toList.take (k + 1)) = false → B.ov r.data.toList b.data.toList (k + 1) = B.ov r.data.toList b.data.toList k)) := hid (fun k => by
      unfold Lib.hasSuffix
      constructor
      · intro h; rw [B.ov, if_pos h]
      · intro h; rw [B.ov, if_neg (by rw [h]; decide)])
    have HO0 : Hid (B.ov r.data.toList b.data.toList 0 = 0) := hid rfl
    have HS0 : Hid (Lib.hasSuffix r.data.toList (b.data.toList.take 0) = true) := hid (by unfold Lib.hasSuffix; rw [List.take_zero]; simp [List.isSuffixOf])
    obtain ⟨m, hm2⟩ : ∃ m, min r.size b.size = m := ⟨_, rfl⟩
    have hmi : min (r.size : Int) (b.size : Int) = (m : Int) := by omega
    have hmb : m ≤ b.size := by omega
    rw [hm2] at HV
    clear hm2
    go_enter Try.func72, Try.ntmps72
    go_wp2_with (refine CC.out.mono ?_; rintro e w' ⟨rfl, rfl⟩)
    go_loop [5] (fun x => ∃ k : Nat, k ≤ m ∧ x = .int .i64 k ∧ B.ov r.data.toList b.data.toList m = B.ov r.data.toList b.data.toList k) (fun x => (intOf x).toNat)
    case atStart => exact ⟨m, Nat.le_refl _, rfl, rfl⟩
    case round =>
      obtain ⟨k, hk, rfl, ho⟩ := hrel
      have HO := hid ho
      clear ho
      have HS1 := hid (HS.out k)
      generalize hx : Lib.hasSuffix r.data.toList (b.data.toList.take k) = x at *
      have HX := hid hx
      clear hx
      cases x with
      | true =>
        have HE : Hid (B.ov r.data.toList b.data.toList m = k) := hid (by
          rw [HO.out]
          cases k with
          | zero => exact HO0.out
          | succ k => exact (HOV.out k).1 HX.out)
        have hz := B.size_extract b k b.size
        have hadd : ∀ w, (Op.stringOp .add r (b.extract k b.size)).run Try.prog w = .ok (.string (r ++ b.extract k b.size)) w := fun w => run_string_add_sum (P := Try.prog) (w := w) r (b.extract k b.size) (by omega)
        go_wp2_with (refine (HS1.out _).mono ?_; rintro e w' ⟨rfl, rfl⟩)
        go_ret
        exact ⟨by rw [HV.out, HE.out]; rfl, Below.refl _ _⟩
      | false =>
        obtain ⟨j, rfl⟩ : ∃ j, k = j + 1 := by
          cases k with
          | zero => exact absurd (HS0.out.symm.trans HX.out) (by decide)
          | succ j => exact ⟨j, rfl⟩
        have HE := hid ((HOV.out j).2 HX.out)
        have hj : ((j + 1 : Nat) : Int) = (j : Int) + 1 := by omega
        have hj2 : (j : Int) + 1 ≤ (b.size : Int) := by omega
        rw [hj] at *
        go_wp2_with (refine (HS1.out _).mono ?_; rintro e w' ⟨rfl, rfl⟩)
        go_round
        case rel => exact ⟨j, by omega, rfl, by rw [HO.out, HE.out]⟩
        case measure => simp [intOf]

/-- The first number that is not 0. -/
def B.or2 (x y : Int) : Int := if x ≠ 0 then x else y
set_option maxHeartbeats 400000 in
set_option maxRecDepth 100000 in
theorem or_any (p c : Nat) (x y : Int) (w : World) (h1 : w.cell? ⟨p, 0, none⟩ = some (.int .i64 x)) (h2 : w.cell? ⟨p, 1, none⟩ = some (.int .i64 y)) :
    Calls Try.prog 79 #[.slice (some ⟨p, 0, none⟩) 2 c] w fun e w' => e = .returned (.int .i64 (B.or2 x y)) ∧ w = w' := by
  have H1 := hid h1
  have H2 := hid h2
  clear h1 h2
  by_cases hx : x = 0
  · have HV : Hid (B.or2 x y = y) := hid (by unfold B.or2; rw [if_neg (by simp [hx])])
    rw [hx] at H1
    clear hx
    by_cases hy : y = 0
    · have HV2 : Hid (B.or2 x y = 0) := hid (by rw [HV.out, hy])
      rw [hy] at H2
      clear hy HV
      go_enter Try.func79, Try.ntmps79
      go_wp2
      go_loop [8] (fun i => i = .int .i64 0 ∨ i = .int .i64 1 ∨ i = .int .i64 2) (fun i => 2 - (intOf i).toNat)
      case atStart => exact Or.inl rfl
      case round =>
        rcases hrel with rfl | rfl | rfl
        · have h1 := H1.out
          go_wp2
          go_round
          case rel => exact Or.inr (Or.inl rfl)
          case measure => simp [intOf]
        · have h2 := H2.out
          go_wp2
          go_round
          case rel => exact Or.inr (Or.inr rfl)
          case measure => simp [intOf]
        · go_wp2
          go_ret
          exact ⟨by rw [HV2.out]; rfl, rfl⟩
    · have hy2 : (y != 0) = true := by simpa using hy
      clear hy
      go_enter Try.func79, Try.ntmps79
      go_wp2
      go_loop [8] (fun i => i = .int .i64 0 ∨ i = .int .i64 1) (fun i => 2 - (intOf i).toNat)
      case atStart => exact Or.inl rfl
      case round =>
        rcases hrel with rfl | rfl
        · have h1 := H1.out
          go_wp2
          go_round
          case rel => exact Or.inr rfl
          case measure => simp [intOf]
        · have h2 := H2.out
          go_wp2
          go_ret
          exact ⟨by rw [HV.out]; rfl, rfl⟩
  · have HV : Hid (B.or2 x y = x) := hid (by unfold B.or2; rw [if_pos hx])
    have hx2 : (x != 0) = true := by simpa using hx
    clear hx
    have h1 := H1.out
    go_enter Try.func79, Try.ntmps79
    go_wp2
    go_loop [8] (fun i => i = .int .i64 0) (fun i => 2 - (intOf i).toNat)
    case atStart => rfl
    case round =>
      subst hrel
      go_wp2
      go_ret
      exact ⟨by rw [HV.out]; rfl, rfl⟩

/-- The order of rows: by length, and then by bytes. -/
def B.cmpR (a b : ByteArray) : Int := B.or2 (Lib.compareInt a.size b.size) (Lib.compareBytes a.data.toList b.data.toList)
set_option maxHeartbeats 400000 in
set_option maxRecDepth 100000 in
theorem compareRows_any (a b : ByteArray) (w : World) :
    Calls Try.prog 73 #[.string a, .string b] w fun e w' => e = .returned (.int .i64 (B.cmpR a b)) ∧ Below w.heap.size w w' := by
  have C1 := hid (fun w => compareInt_any a.size b.size w)
  have C2 := hid (fun w => compare_any a b w)
  have HV : Hid (B.cmpR a b = B.or2 (Lib.compareInt a.size b.size) (Lib.compareBytes a.data.toList b.data.toList)) := hid rfl
  generalize Lib.compareInt a.size b.size = x at *
  generalize Lib.compareBytes a.data.toList b.data.toList = y at *
  have C3 := hid (fun (w : World) => or_any w.heap.size 2 x y (w.alloc (.cells #[.int .i64 x, .int .i64 y] 3)) (by rw [World.cell?_alloc_at _ _ _ _ rfl]; rfl) (by rw [World.cell?_alloc_at _ _ _ _ rfl]; rfl))
  go_enter Try.func73, Try.ntmps73
  go_wp2_with (first | (go_at_call 80; refine (C1.out _).mono ?_; rintro e w' ⟨rfl, rfl⟩) | (go_at_call 81; refine (C2.out _).mono ?_; rintro e w' ⟨rfl, rfl⟩) | (go_at_call 79; refine (C3.out _).mono ?_; rintro e w' ⟨rfl, rfl⟩))
  go_ret
  exact ⟨by rw [HV.out]; rfl, (Below.refl _ _).alloc (Nat.le_refl _) _⟩

/-- The error of borders that are to be joined. -/
def B.chkL : List ByteArray → Int
  | [] => 0
  | b :: l => if B.chk b ≠ 0 then B.chk b else if 8 < b.size then 19 else B.chkL l
def B.chkP (L : List ByteArray) : Int := if L.length = 0 then 1 else if 5 < L.length then 2 else B.chkL L
theorem B.chkL_at {L : List ByteArray} {k : Nat} (h : k < L.length) : B.chkL (L.drop k) = if B.chk L[k] ≠ 0 then B.chk L[k] else if 8 < L[k].size then 19 else B.chkL (L.drop (k + 1)) := by
  rw [List.drop_eq_getElem_cons h, B.chkL]

set_option maxHeartbeats 400000 in
set_option maxRecDepth 100000 in
theorem checkParts_any (a : Option Addr) (c : Nat) (L : List ByteArray) (w : World) (hL : L.length ≤ maxLen) (hs : ∀ k (h : k < L.length), L[k].size ≤ maxLen) (hr : RdS w a L) :
    Calls Try.prog 62 #[.slice a L.length c] w fun e w' => e = .returned (.int .i64 (B.chkP L)) ∧ Below w.heap.size w w' := by
  unfold maxLen at hL
  have HR := hid hr
  clear hr
  by_cases h0 : L.length = 0
  · have HV : Hid (B.chkP L = 1) := hid (by unfold B.chkP; rw [if_pos h0])
    have h0' : (L.length : Int) = 0 := by omega
    go_enter Try.func62, Try.ntmps62
    go_wp2
    go_ret
    exact ⟨by rw [HV.out]; rfl, Below.refl _ _⟩
  have hn0 : ((L.length : Int) == 0) = false := by rw [beq_eq_false_iff_ne]; omega
  by_cases h5 : 5 < L.length
  · have HV : Hid (B.chkP L = 2) := hid (by unfold B.chkP; rw [if_neg h0, if_pos h5])
    clear h0
    go_enter Try.func62, Try.ntmps62
    go_wp2
    go_ret
    exact ⟨by rw [HV.out]; rfl, Below.refl _ _⟩
  have HV : Hid (B.chkP L = B.chkL (L.drop 0)) := hid (by unfold B.chkP; rw [if_neg h0, if_neg h5]; rfl)
  have HAT := hid (fun k (h : k < L.length) => B.chkL_at h)
  have HEND : Hid (B.chkL (L.drop L.length) = 0) := hid (by rw [List.drop_length]; rfl)
  have CC := hid (fun k (h : k < L.length) w => check_any L[k] w (hs k h))
  clear h0 hs
  go_enter Try.func62, Try.ntmps62
  go_wp2
  go_loopw [16] (fun i wr => ∃ k : Nat, k ≤ L.length ∧ i = .int .i64 k ∧ B.chkP L = B.chkL (L.drop k) ∧ Below w.heap.size w wr) (fun i _ => L.length - (intOf i).toNat)
  case atStart => exact ⟨0, Nat.zero_le _, rfl, HV.out, Below.refl _ _⟩
  case round =>
    obtain ⟨k, hk, rfl, hv, hb⟩ := hrel
    have HV2 := hid hv
    have HB := hid hb
    clear hv hb HV
    by_cases hlt : k < L.length
    · obtain ⟨b, off, rfl, hc⟩ := HR.out.stays HB.out k hlt
      have HA1 := hid (HAT.out k hlt)
      have CC1 := hid (CC.out k hlt)
      have hix : (0 : Int) ≤ (k : Int) ∧ (k : Int) < (L.length : Int) := by omega
      generalize L[k] = s at *
      by_cases h1 : B.chk s = 0
      · rw [h1] at CC1
        by_cases h8 : 8 < s.size
        · have HE : Hid (B.chkP L = 19) := hid (by rw [HV2.out, HA1.out, if_neg (by simp [h1]), if_pos h8])
          clear HA1 h1
          go_wp2_with (refine (CC1.out _).mono ?_; rintro e w1 ⟨rfl, b1⟩; replace b1 := hid b1)
          go_ret
          exact ⟨by rw [HE.out]; rfl, HB.out.trans (b1.out.mono HB.out.size)⟩
        · have HE : Hid (B.chkP L = B.chkL (L.drop (k + 1))) := hid (by rw [HV2.out, HA1.out, if_neg (by simp [h1]), if_neg h8])
          clear HA1 h1
          go_wp2_with (refine (CC1.out _).mono ?_; rintro e w1 ⟨rfl, b1⟩; replace b1 := hid b1)
          go_roundw
          case rel => exact ⟨k + 1, by omega, by go_num, HE.out, HB.out.trans (b1.out.mono HB.out.size)⟩
          case measure => simp [intOf]; omega
      · have HE : Hid (B.chkP L = B.chk s) := hid (by rw [HV2.out, HA1.out, if_pos h1])
        have hn : (B.chk s != 0) = true := by simpa using h1
        clear HA1 h1
        generalize B.chk s = x at *
        go_wp2_with (refine (CC1.out _).mono ?_; rintro e w1 ⟨rfl, b1⟩; replace b1 := hid b1)
        go_ret
        exact ⟨by rw [HE.out]; rfl, HB.out.trans (b1.out.mono HB.out.size)⟩
    · have hke : k = L.length := by omega
      subst hke
      rw [HEND.out] at HV2
      go_wp2
      go_ret
      exact ⟨by rw [HV2.out]; rfl, HB.out⟩
end Go.Proofs.Ytiodcgdjphmffaa
