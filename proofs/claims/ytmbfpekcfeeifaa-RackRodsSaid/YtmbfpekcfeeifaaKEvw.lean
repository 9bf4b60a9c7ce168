/- Package rack: the walks of everywhere, Missing, Trim. -/
import Derived.Test.YtmbfpekcfeeifaaKJng
namespace Go.Proofs.Ytmbfpekcfeeifaa
open Go.RowKit

/-- The rods of a row, up to a column. -/
def K.evr (k : Nat) : Nat → List Br
  | 0 => []
  | j + 1 => K.evr k j ++ [((k : Int), (j : Int), (0 : Int))]
/-- The rods of all squares of the first rows. -/
def K.evs (n : Nat) : Nat → List Br
  | 0 => []
  | k + 1 => K.evs n k ++ K.evr k n
theorem K.evr_len (k : Nat) : ∀ j, (K.evr k j).length = j
  | 0 => rfl
  | j + 1 => by rw [K.evr, List.length_append, K.evr_len k j]; rfl
theorem K.evs_len (n : Nat) : ∀ k, (K.evs n k).length = k * n
  | 0 => by rw [Nat.zero_mul]; rfl
  | k + 1 => by rw [K.evs, List.length_append, K.evs_len n k, K.evr_len, Nat.succ_mul]
theorem K.evr_mem {k : Nat} {b : Br} : ∀ {j}, b ∈ K.evr k j ↔ ∃ y : Nat, y < j ∧ b = ((k : Int), (y : Int), (0 : Int))
  | 0 => by simp [K.evr]
  | j + 1 => by
    rw [K.evr, List.mem_append, K.evr_mem (j := j), List.mem_singleton]
    constructor
    · rintro (⟨y, h, e⟩ | e)
      · exact ⟨y, by omega, e⟩
      · exact ⟨j, by omega, e⟩
    · rintro ⟨y, h, e⟩
      by_cases hy : y = j
      · right; rw [e, hy]
      · left; exact ⟨y, by omega, e⟩
theorem K.evs_mem {n : Nat} {b : Br} : ∀ {k}, b ∈ K.evs n k ↔ ∃ x y : Nat, x < k ∧ y < n ∧ b = ((x : Int), (y : Int), (0 : Int))
  | 0 => by simp [K.evs]
  | k + 1 => by
    rw [K.evs, List.mem_append, K.evs_mem (k := k), K.evr_mem]
    constructor
    · rintro (⟨x, y, h1, h2, e⟩ | ⟨y, h2, e⟩)
      · exact ⟨x, y, by omega, h2, e⟩
      · exact ⟨k, y, by omega, h2, e⟩
    · rintro ⟨x, y, h1, h2, e⟩
      by_cases hx : x = k
      · right; subst hx; exact ⟨y, h2, e⟩
      · left; exact ⟨x, y, by omega, h2, e⟩
theorem K.evs_inb {m n : Nat} : ∀ b ∈ K.evs n m, K.InB m n b := fun b hb => by
  obtain ⟨x, y, h1, h2, rfl⟩ := K.evs_mem.1 hb
  exact ⟨by show (0 : Int) ≤ (x : Int); omega, by show (x : Int) < (m : Int); omega, by show (0 : Int) ≤ (y : Int); omega, by show (y : Int) < (n : Int); omega⟩

theorem RowB.mono {w : World} {lo lo' : Nat} {v : Value} {bs : List Br} (h : RowB w lo v bs) (hb : lo' ≤ lo) : RowB w lo' v bs :=
  ⟨h.1, h.2.imp id fun ⟨g, cap, cur, e, hg, r⟩ => ⟨g, cap, cur, e, Nat.le_trans hb hg, r⟩⟩

set_option maxHeartbeats 4000000 in
set_option maxRecDepth 100000 in
theorem everywhere_any (m n : Nat) (a : Option Addr) (c : Nat) (bs : List Br) (w : World) (h1 : m ≤ 6) (h2 : n ≤ 6) (hR : RdB w a bs) :
    Calls Try.prog 70 #[K.rk m n a bs.length c] w fun e w' => ∃ v, e = .returned v ∧ RowB w' w.heap.size v (K.evs n m) ∧ Below w.heap.size w w' := by
  obtain ⟨HB0, hbx⟩ := box_rack w m n a c bs hR
  have HBX := hid hbx
  obtain ⟨i0, hi, hz0, hz1, hz2⟩ := info_parts (show (Try.prog.info? 63).map (fun i => (i.zero, i.size, i.bytes)) = some (some (.agg #[.int .i64 0, .int .i64 0, .int .i64 0]), 3, 24) by kernel_rfl)
  clear hbx hR
  unfold K.rk
  obtain ⟨k0, k1, k2, _, _, hsz⟩ := HBX.out _ (Below.refl _ _)
  go_enter Try.func70, Try.ntmps70
  go_wp2
  generalize hw1 : w.alloc (.cells #[.int .i64 (m : Int), .int .i64 (n : Int), .slice a bs.length c] 24) = w1 at *
  clear hw1
  clear k0 k1 k2 hsz
  go_loopw [3, 8] (fun v i wr => ∃ k : Nat, k ≤ m ∧ i = .int .i64 k ∧ RowB wr w1.heap.size v (K.evs n k) ∧ Below w1.heap.size w1 wr) (fun _ i _ => m - (intOf i).toNat)
  case atStart => exact ⟨0, Nat.zero_le _, rfl, World.ownsRow_nil _ _ _ _, Below.refl _ _⟩
  case round =>
    obtain ⟨k, hk, rfl, hrow, hb⟩ := hrel
    have HROW := hid hrow
    have HB := hid hb
    obtain ⟨k0, k1, k2, _, _, hsz⟩ := HBX.out wr hb
    clear hrow hb
    by_cases hlt : k < m
    · have HEV : Hid (K.evs n (k + 1) = K.evs n k ++ K.evr k n) := hid rfl
      have HEL := hid (K.evs_len n k)
      have hkn : k * n ≤ 36 := Nat.le_trans (Nat.mul_le_mul (show k ≤ 6 by omega) h2) (by decide)
      generalize K.evs n k = E at *
      generalize hwr : wr = w2 at *
      clear hwr
      go_wp2
      clear k0 k1 k2 hsz
      go_loopw [3, 13] (fun v i wr => ∃ j : Nat, j ≤ n ∧ i = .int .i64 j ∧ RowB wr w1.heap.size v (E ++ K.evr k j) ∧ Below w1.heap.size w1 wr) (fun _ i _ => n - (intOf i).toNat)
      case atStart => exact ⟨0, Nat.zero_le _, rfl, by rw [show E ++ K.evr k 0 = E from List.append_nil _]; exact HROW.out, HB.out⟩
      case round =>
        obtain ⟨j, hj, rfl, hrow, hb⟩ := hrel
        have HRW := hid hrow
        have HBW := hid hb
        clear hrow hb
        by_cases hjl : j < n
        · have HEJ : Hid (E ++ K.evr k (j + 1) = (E ++ K.evr k j) ++ [((k : Int), (j : Int), (0 : Int))]) := hid (by rw [K.evr, List.append_assoc])
          have hln : (E ++ K.evr k j).length ≤ 42 := by rw [List.length_append, HEL.out, K.evr_len]; omega
          have HM1 : Hid ((E ++ K.evr k j).length + 1 ≤ maxLen) := hid (by unfold maxLen; omega)
          have HM2 : Hid (((E ++ K.evr k j).length + 1) * 24 ≤ 140737488355328) := hid (by omega)
          generalize E ++ K.evr k j = F at *
          clear hln
          go_wp2_with (at_builtin; refine wpList_append_own _ rfl _ _ 22 rfl w1.heap.size 63 i0 (.agg #[.int .i64 0, .int .i64 0, .int .i64 0]) 3 24 Try.underlying22 hi hz0 hz1 hz2 rfl (by decide) _ _ _ rfl (World.ownsRow.alloc HRW.out _) ⟨wr.heap.size, 0, none⟩ 1 1 [.int .i64 (k : Int), .int .i64 (j : Int), .int .i64 0] rfl rfl ?c1 ?c2 HM1.out HM2.out ?c5 ?_)
          case c1 =>
            intro i u hi
            match i, hi with
            | 0, hi => simp at hi; subst hi; rw [show Addr.add ⟨wr.heap.size, 0, none⟩ 0 = ⟨wr.heap.size, 0, none⟩ from rfl, World.cell?_alloc_at _ _ _ _ rfl]; rfl
            | 1, hi => simp at hi; subst hi; rw [show Addr.add ⟨wr.heap.size, 0, none⟩ 1 = ⟨wr.heap.size, 1, none⟩ from rfl, World.cell?_alloc_at _ _ _ _ rfl]; rfl
            | 2, hi => simp at hi; subst hi; rw [show Addr.add ⟨wr.heap.size, 0, none⟩ 2 = ⟨wr.heap.size, 2, none⟩ from rfl, World.cell?_alloc_at _ _ _ _ rfl]; rfl
          case c2 => intro u hu; simp at hu; rcases hu with rfl | rfl | rfl <;> rfl
          case c5 => exact Nat.le_trans HBW.out.size (by simp)
          intro v' w9 hown' hgrow _
          have HB9 := hid (Below.grown (HBW.out.alloc HBW.out.size (.cells #[.int .i64 (k : Int), .int .i64 (j : Int), .int .i64 0] 63)) hgrow (by simp; have := HBW.out.size; omega) (fun q hq => (World.ownsRow.lt HRW.out q hq).1))
          have HO9 : Hid (RowB w9 w1.heap.size v' (F ++ [((k : Int), (j : Int), (0 : Int))])) := hid (by
            unfold RowB
            rw [List.length_append, brCells_snoc]
            exact hown')
          clear hown' hgrow
          go_wp2
          go_roundw
          case rel => exact ⟨j + 1, by omega, by go_num, by rw [HEJ.out]; exact HO9.out, HB9.out⟩
          case measure => simp [intOf]; omega
        · have hje : j = n := by omega
          subst hje
          go_wp2
          go_roundw
          case rel => exact ⟨k + 1, by omega, by go_num, by rw [HEV.out]; exact HRW.out, HBW.out⟩
          case measure => simp [intOf]; omega
    · have hke : k = m := by omega
      subst hke
      have HBE := hid (HB0.out.trans (HB.out.mono HB0.out.size))
      have HRE : Hid (RowB wr w.heap.size _ (K.evs n k)) := hid (HROW.out.mono HB0.out.size)
      go_wp2
      go_ret
      exact ⟨_, rfl, HRE.out, HBE.out⟩
end Go.Proofs.Ytmbfpekcfeeifaa
