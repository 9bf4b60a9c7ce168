/- Package transfer: the walks of isRow, Ways and Row. -/
import Derived.Test.YtffcnjcglfkbnaaTWays
namespace Go.Proofs.Ytffcnjcglfkbnaa
open Go.RowKit

/-- From its k-th way on, each one has just the number before as its greater one. -/
def K.rowF : List (Int × Int) → Nat → Bool
  | [], _ => true
  | p :: l, k => decide (p.1 = (k : Int)) && K.rowF l (k + 1)
def K.row (l : List Int) : Bool := K.rowF (K.ways l (l.length - 1)) 0
theorem K.rowF_drop {l : List (Int × Int)} {k : Nat} (h : k < l.length) : K.rowF (l.drop k) k = (decide (l[k].1 = (k : Int)) && K.rowF (l.drop (k + 1)) (k + 1)) := by
  rw [List.drop_eq_getElem_cons h]; rfl

set_option maxHeartbeats 4000000 in
set_option maxRecDepth 100000 in
theorem isRow_any (b off c : Nat) (l : List Int) (w : World) (hl : K.Chain l) (hc : l.length ≤ c) (hcm : c ≤ maxLen) (hx : ∀ k, k < l.length → w.cell? ⟨b, off + k, none⟩ = some (.int .i64 (l.getD k 0))) :
    Calls Try.prog 49 #[.slice (some ⟨b, off, none⟩) l.length c] w fun e w' => e = .returned (.bool (K.row l)) ∧ Below w.heap.size w w' := by
  have HW := hid (waysOf_any b off c l w hl hc hcm hx)
  have h20 : (K.ways l (l.length - 1)).length ≤ 20 := by rw [K.ways_length]; have := hl.few; omega
  unfold K.row
  generalize K.ways l (l.length - 1) = ws at *
  clear hl hx
  go_enter Try.func49, Try.ntmps49
  go_wp2_with fail
  refine HW.out.mono ?_
  rintro e w1 ⟨r, cr, rfl, hrd, hb⟩
  have HR := hid hrd
  have HB := hid hb
  clear hrd hb
  go_wp2
  go_loopw [8] (fun s wr => ∃ k : Nat, k ≤ ws.length ∧ s = .int .i64 k ∧ K.rowF ws 0 = K.rowF (ws.drop k) k ∧ Below w1.heap.size w1 wr) (fun s _ => ws.length - (intOf s).toNat)
  case atStart => exact ⟨0, Nat.zero_le _, rfl, rfl, Below.refl _ _⟩
  case round =>
    obtain ⟨k, hk, rfl, hrow, hb⟩ := hrel
    have HRW := hid hrow
    have HBR := hid hb
    clear hrow
    by_cases hlt : k < ws.length
    · obtain ⟨b2, o2, rfl, c0, c1⟩ := (HR.out.stays hb) k hlt
      have HD := hid (K.rowF_drop hlt)
      have hix : (0 : Int) ≤ (k : Int) ∧ (k : Int) < (ws.length : Int) := by omega
      have hba := hid (hb.alloc hb.size (.cells #[.int .i64 ws[k].1, .int .i64 ws[k].2] 58))
      generalize ws[k].1 = p at *
      generalize ws[k].2 = q at *
      clear hb
      by_cases hp : p = (k : Int)
      · have HN : Hid (K.rowF ws 0 = K.rowF (ws.drop (k + 1)) (k + 1)) := hid (by rw [HRW.out, HD.out, decide_eq_true hp]; rfl)
        subst hp
        go_wp2
        go_roundw
        case rel => exact ⟨k + 1, by omega, by go_num, HN.out, hba.out⟩
        case measure => simp [intOf]; omega
      · have HN : Hid (K.rowF ws 0 = false) := hid (by rw [HRW.out, HD.out, decide_eq_false hp]; rfl)
        have hne : (p != (k : Int)) = true := by rw [bne_iff_ne]; exact hp
        go_wp2
        go_ret
        exact ⟨ret_bool HN.out.symm, HB.out.trans (hba.out.mono HB.out.size)⟩
    · have hke : k = ws.length := by omega
      have HN : Hid (K.rowF ws 0 = true) := hid (by rw [HRW.out, hke, List.drop_length]; rfl)
      clear hb
      go_wp2
      go_ret
      exact ⟨ret_bool HN.out.symm, HB.out.trans (HBR.out.mono HB.out.size)⟩

/-- The cells of a slice that is not empty. -/
theorem RdI.cells {w : World} {a : Option Addr} {l : List Int} (h : RdI w a l) (h0 : 1 ≤ l.length) : ∃ b off, a = some ⟨b, off, none⟩ ∧ ∀ k, k < l.length → w.cell? ⟨b, off + k, none⟩ = some (.int .i64 (l.getD k 0)) := by
  obtain ⟨b, off, rfl, _⟩ := h 0 (by omega)
  refine ⟨b, off, rfl, fun k hk => ?_⟩
  obtain ⟨b', off', he, hcell⟩ := h k hk
  simp only [Option.some.injEq, Addr.mk.injEq, and_true] at he
  obtain ⟨rfl, rfl⟩ := he
  rw [hcell]; simp [List.getD, hk]

/-- What Ways returns, on both sides. -/
def K.waysV (l : List Int) : List (Int × Int) := if K.chk l = 0 then K.ways l (l.length - 1) else []
def K.rowV (l : List Int) : Bool := decide (K.chk l = 0) && K.row l

set_option maxHeartbeats 4000000 in
set_option maxRecDepth 100000 in
theorem ways_any (a : Option Addr) (c : Nat) (l : List Int) (w : World) (hc : l.length ≤ c) (hcm : c ≤ maxLen) (hx : RdI w a l) :
    Calls Try.prog 16 #[.slice a l.length c] w fun e w' => ∃ r cr xs, e = .returned (.tuple #[.slice r xs.length cr, .int .i64 (K.chk l)]) ∧ xs = K.waysV l ∧ RdP w' r xs ∧ Below w.heap.size w w' := by
  have HC := hid (check_any a c l w hc hcm hx)
  unfold K.waysV
  by_cases h0 : K.chk l = 0
  · have hch := K.chain_of h0
    rw [if_pos h0]
    rw [h0] at HC ⊢
    obtain ⟨b, off, rfl, hcells⟩ := hx.cells hch.some
    have HW := hid (fun W (hW : Below w.heap.size w W) => waysOf_any b off c l W hch hc hcm (fun k hk => cell_stays hW (Nat.le_refl _) (hcells k hk)))
    generalize K.ways l (l.length - 1) = ws at *
    clear hcells hx hch h0
    go_enter Try.func16, Try.ntmps16
    go_wp2_with fail
    refine HC.out.mono ?_
    rintro e w1 ⟨rfl, hb⟩
    have HW1 := hid (HW.out w1 hb)
    have HB := hid hb
    clear hb HW
    go_wp2_with fail
    refine HW1.out.mono ?_
    rintro e w2 ⟨r, cr, rfl, hrd, hb2⟩
    have HRD := hid hrd
    have HB2 := hid (HB.out.trans (hb2.mono HB.out.size))
    clear hrd hb2
    go_wp2
    go_ret2
    exact ⟨r, cr, ws, rfl, rfl, HRD.out, HB2.out⟩
  · rw [if_neg h0]
    have hne : (K.chk l != 0) = true := by rw [bne_iff_ne]; exact h0
    generalize K.chk l = z at *
    clear h0 hx
    go_enter Try.func16, Try.ntmps16
    go_wp2_with fail
    refine HC.out.mono ?_
    rintro e w1 ⟨rfl, hb⟩
    have HB := hid hb
    clear hb
    go_wp2
    go_ret2
    exact ⟨none, 0, [], rfl, rfl, fun _ h => absurd h (Nat.not_lt_zero _), HB.out⟩

set_option maxHeartbeats 4000000 in
set_option maxRecDepth 100000 in
theorem row_any (a : Option Addr) (c : Nat) (l : List Int) (w : World) (hc : l.length ≤ c) (hcm : c ≤ maxLen) (hx : RdI w a l) :
    Calls Try.prog 18 #[.slice a l.length c] w fun e w' => e = .returned (.tuple #[.bool (K.rowV l), .int .i64 (K.chk l)]) ∧ Below w.heap.size w w' := by
  have HC := hid (check_any a c l w hc hcm hx)
  unfold K.rowV
  by_cases h0 : K.chk l = 0
  · have hch := K.chain_of h0
    rw [h0] at HC ⊢
    obtain ⟨b, off, rfl, hcells⟩ := hx.cells hch.some
    have HW := hid (fun W (hW : Below w.heap.size w W) => isRow_any b off c l W hch hc hcm (fun k hk => cell_stays hW (Nat.le_refl _) (hcells k hk)))
    have e0 : (decide ((0 : Int) = 0) && K.row l) = K.row l := by simp
    rw [e0]
    generalize K.row l = ro at *
    clear hcells hx hch h0 e0
    go_enter Try.func18, Try.ntmps18
    go_wp2_with fail
    refine HC.out.mono ?_
    rintro e w1 ⟨rfl, hb⟩
    have HW1 := hid (HW.out w1 hb)
    have HB := hid hb
    clear hb HW
    go_wp2_with fail
    refine HW1.out.mono ?_
    rintro e w2 ⟨rfl, hb2⟩
    have HB2 := hid (HB.out.trans (hb2.mono HB.out.size))
    clear hb2
    go_wp2
    go_ret2
    exact ⟨rfl, HB2.out⟩
  · have hne : (K.chk l != 0) = true := by rw [bne_iff_ne]; exact h0
    have e0 : (decide (K.chk l = 0) && K.row l) = false := by rw [decide_eq_false h0]; rfl
    rw [e0]
    generalize K.chk l = z at *
    clear h0 hx e0
    go_enter Try.func18, Try.ntmps18
    go_wp2_with fail
    refine HC.out.mono ?_
    rintro e w1 ⟨rfl, hb⟩
    have HB := hid hb
    clear hb
    go_wp2
    go_ret2
    exact ⟨rfl, HB.out⟩
end Go.Proofs.Ytffcnjcglfkbnaa
