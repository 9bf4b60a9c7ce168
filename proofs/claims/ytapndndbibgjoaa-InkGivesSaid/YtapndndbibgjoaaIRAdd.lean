/- Package tuscheref03: the walks of add, ever and Ever. -/
import Derived.Test.YtapndndbibgjoaaIEverM
import Derived.Test.YtapndndbibgjoaaIGrow
namespace Go.Proofs.Ytapndndbibgjoaa
open Go.RowKit

theorem and_one_i64 {x : Nat} (hx : x < 128) : bits .and .i64 (x : Int) 1 = ((x % 2 : Nat) : Int) := by
  have e : bits .and .i64 (x : Int) 1 = IntKind.i64.wrap ((BitVec.ofInt 64 (x : Int) &&& BitVec.ofInt 64 ((1 : Nat) : Int)).toNat : Int) := rfl
  rw [e, BitVec.toNat_and, bv_of, bv_of, Nat.mod_eq_of_lt (show x < 2 ^ 64 by omega), Nat.mod_eq_of_lt (show 1 < 2 ^ 64 by omega), Nat.and_one_is_mod]
  exact IntWalk.i64_in _ (by omega)

theorem bit_at {s : Nat} (hs : s < 128) (c : Nat) : bits .and .i64 ((s : Int) / 2 ^ c) 1 = if s.testBit c = true then 1 else 0 := by
  have h1 : (s : Int) / 2 ^ c = ((s / 2 ^ c : Nat) : Int) := by rw [Int.natCast_ediv]; simp
  rw [h1, and_one_i64 (Nat.lt_of_le_of_lt (Nat.div_le_self _ _) hs), Nat.testBit_eq_decide_div_mod_eq]
  have : s / 2 ^ c % 2 < 2 := Nat.mod_lt _ (by decide)
  by_cases h : s / 2 ^ c % 2 = 1
  · simp [h]
  · have h0 : s / 2 ^ c % 2 = 0 := by omega
    simp [h0]

set_option maxHeartbeats 2000000 in
set_option maxRecDepth 100000 in
theorem refAdd_any (n : Int) (s : Nat) (i : Nat) (a : Option Addr) (c : Nat) (T : List (List Int)) (w : World) (hg : K.Good n T) (hi : i < T.length) (hs : s < 2 ^ n.toNat) (hT : RdM w a T) :
    Calls Try.prog 76 #[K.pal n a T.length c, .int .i64 s, .int .i64 i] w fun e w' => e = .returned (.int .i64 (K.addL T[i] s : Nat)) ∧ Below w.heap.size w w' := by
  have hb0 : Below w.heap.size w (w.alloc (.cells #[.int .i64 n, .slice a T.length c] 29)) := (Below.refl _ _).alloc (Nat.le_refl _) _
  have k0 : (w.alloc (.cells #[.int .i64 n, .slice a T.length c] 29)).cell? ⟨w.heap.size, 0, none⟩ = some (.int .i64 n) := by rw [World.cell?_alloc_at _ _ _ _ rfl]; rfl
  have k1 : (w.alloc (.cells #[.int .i64 n, .slice a T.length c] 29)).cell? ⟨w.heap.size, 1, none⟩ = some (.slice a T.length c) := by rw [World.cell?_alloc_at _ _ _ _ rfl]; rfl
  have HB0 := hid hb0
  have hn7 : n.toNat ≤ 7 := by have := hg.hi; omega
  have hnn : ((n.toNat : Nat) : Int) = n := by have := hg.lo; omega
  have hrow := hg.row hi
  obtain ⟨b, off, r, cr, rfl, hc, hr⟩ := (hT.stays hb0) i hi
  have hlen := hg.few
  rw [K.addL_eq T[i] hs hn7]
  generalize T[i] = row at *
  rw [hrow.1] at hc
  generalize n.toNat = N at *
  subst hnn
  have hN0 : 0 < N := by have := hg.lo; omega
  obtain ⟨b', off', rfl, -⟩ := hr 0 (by rw [hrow.1]; exact hN0)
  have HC := hid hc
  have HR : Hid (∀ j, j < N → ∃ m : Nat, m < N ∧ row.getD j 0 = (m : Int) ∧ (w.alloc (.cells #[.int .i64 (N : Int), .slice (some ⟨b, off, none⟩) T.length c] 29)).cell? ⟨b', off' + j, none⟩ = some (.int .i64 (m : Int))) := hid (fun j hj => by
    have hjl : j < row.length := by rw [hrow.1]; exact hj
    obtain ⟨b2, o2, he, hcell⟩ := hr j hjl
    simp only [Option.some.injEq, Addr.mk.injEq, and_true] at he
    obtain ⟨rfl, rfl⟩ := he
    obtain ⟨m, hm, hm2⟩ := hrow.at hj
    refine ⟨m, hm, hm2, ?_⟩
    rw [hcell, ← hm2]
    simp [List.getD, List.getElem?_eq_getElem hjl])
  have HW := hid hrow
  have HS := hid hs
  have hix : (0 : Int) ≤ (i : Int) ∧ (i : Int) < (T.length : Int) := by omega
  clear hb0 hT hr hg hc hrow
  unfold K.pal
  go_enter Try.func76, Try.ntmps76
  go_wp2
  generalize w.alloc (.cells #[.int .i64 (N : Int), .slice (some ⟨b, off, none⟩) T.length c] 29) = w1 at *
  go_loop [7, 8] (fun v i => ∃ k : Nat, k ≤ N ∧ i = .int .i64 k ∧ v = .int .i64 (K.addR row s k : Nat)) (fun _ i => N - (intOf i).toNat)
  case atStart => exact ⟨0, Nat.zero_le _, rfl, rfl⟩
  case round =>
    obtain ⟨k, hk, rfl, rfl⟩ := hrel
    by_cases hlt : k < N
    · have hst := K.addR_succ row s k
      have hbit := bit_at (K.lt_128 HS.out hn7) k
      obtain ⟨m, m1, m2, m3⟩ := HR.out k hlt
      have hc := HC.out
      have hkx : (0 : Int) ≤ (k : Int) ∧ (k : Int) < (N : Int) := by omega
      have hk64 : (k : Int) ≤ 64 := by omega
      rw [m2, Int.toNat_natCast] at hst
      by_cases hb : s.testBit k = true
      · rw [if_pos hb] at hst hbit
        have l1 := K.lt_128 (K.addR_lt HW.out HS.out k (by omega)) hn7
        have hor := or_i64 l1 (K.lt_128 (K.two_lt m1) hn7)
        rw [← hst] at hor
        have l3 := K.lt_128 (K.two_lt m1) hn7
        have h2 : (2 : Int) ^ m = ((2 ^ m : Nat) : Int) := by simp
        have hsh : wrap64 (2 ^ m) = (2 : Int) ^ m := by
          rw [h2]
          generalize 2 ^ m = q at *
          unfold wrap64; omega
        rw [← h2] at hor
        clear h2
        clear l3
        generalize hz : K.addR row s (k + 1) = z at *
        have HZ := hid hz
        clear hz hst hb m2
        generalize K.addR row s k = acc at *
        go_wp2
        go_round
        case rel => exact ⟨k + 1, by omega, by go_num, by rw [HZ.out]⟩
        case measure => simp [intOf]; omega
      · rw [if_neg hb] at hst hbit
        have HZ := hid hst
        clear hst hb m2
        generalize K.addR row s k = acc at *
        go_wp2
        go_round
        case rel => exact ⟨k + 1, by omega, by go_num, by rw [HZ.out]⟩
        case measure => simp [intOf]; omega
    · have hke : k = N := by omega
      subst hke
      go_wp2
      go_ret
      exact ⟨rfl, HB0.out⟩

set_option maxHeartbeats 2000000 in
set_option maxRecDepth 100000 in
theorem refEver0_any (n : Int) (a : Option Addr) (c : Nat) (T : List (List Int)) (w : World) (hg : K.Good n T) (hT : RdM w a T) :
    Calls Try.prog 70 #[K.pal n a T.length c] w fun e w' => e = .returned (.int .i64 (K.rounds T n.toNat : Nat)) ∧ Below w.heap.size w w' := by
  have hb0 : Below w.heap.size w (w.alloc (.cells #[.int .i64 n, .slice a T.length c] 29)) := (Below.refl _ _).alloc (Nat.le_refl _) _
  have k0 : (w.alloc (.cells #[.int .i64 n, .slice a T.length c] 29)).cell? ⟨w.heap.size, 0, none⟩ = some (.int .i64 n) := by rw [World.cell?_alloc_at _ _ _ _ rfl]; rfl
  have k1 : (w.alloc (.cells #[.int .i64 n, .slice a T.length c] 29)).cell? ⟨w.heap.size, 1, none⟩ = some (.slice a T.length c) := by rw [World.cell?_alloc_at _ _ _ _ rfl]; rfl
  have HB0 := hid hb0
  have HK0 := hid k0
  have HK1 := hid k1
  have HT := hid (hT.stays hb0)
  have hn7 : n.toNat ≤ 7 := by have := hg.hi; omega
  have hn1 : 1 ≤ n.toNat := by have := hg.lo; omega
  have hnn : ((n.toNat : Nat) : Int) = n := by have := hg.lo; omega
  have hlen := hg.few
  have HG := hid hg
  have HR : Hid (∀ r ∈ T, K.Row n.toNat r) := hid (fun r hr => by obtain ⟨k, hk, rfl⟩ := List.getElem_of_mem hr; exact HG.out.row hk)
  have HA := hid (fun W s i hi hs hx => refAdd_any n s i a c T W hg hi hs hx)
  clear hb0 hT hg
  generalize n.toNat = N at *
  subst hnn
  unfold K.pal at HA ⊢
  go_enter Try.func70, Try.ntmps70
  go_wp2
  generalize w.alloc (.cells #[.int .i64 (N : Int), .slice a T.length c] 29) = w1 at *
  clear k0 k1
  go_loopw [3, 4] (fun v i wr => ∃ k : Nat, k ≤ N ∧ i = .int .i64 k ∧ v = .int .i64 (K.rounds T k : Nat) ∧ Below w1.heap.size w1 wr) (fun _ i _ => N - (intOf i).toNat)
  case atStart => exact ⟨0, Nat.zero_le _, rfl, rfl, Below.refl _ _⟩
  case round =>
    obtain ⟨k, hk, rfl, rfl, hb⟩ := hrel
    have HB := hid hb
    have q0 := cell_stays hb (Nat.le_refl _) HK0.out
    have q1 := cell_stays hb (Nat.le_refl _) HK1.out
    clear hb
    by_cases hlt : k < N
    · have hl := K.rounds_lt hn1 hn7 HR.out k
      have HN : Hid (K.rounds T (k + 1) = K.seq T (K.rounds T k)) := hid rfl
      generalize K.rounds T k = s0 at *
      go_wp2
      clear q0 q1
      go_loopw [3, 5] (fun v i wr2 => ∃ j : Nat, j ≤ T.length ∧ i = .int .i64 j ∧ v = .int .i64 (K.seq (T.take j) s0 : Nat) ∧ Below w1.heap.size w1 wr2) (fun _ i _ => T.length - (intOf i).toNat)
      case atStart => exact ⟨0, Nat.zero_le _, rfl, rfl, HB.out⟩
      case round =>
        obtain ⟨j, hj, rfl, rfl, hb⟩ := hrel
        have HB2 := hid hb
        have q0 := cell_stays hb (Nat.le_refl _) HK0.out
        have q1 := cell_stays hb (Nat.le_refl _) HK1.out
        by_cases hjl : j < T.length
        · have hs := K.seq_lt hn7 (T := T.take j) (fun r hr => HR.out r (List.mem_of_mem_take hr)) hl
          have HAD := hid (HA.out wr _ j hjl hs (HT.out.stays hb))
          have hst := K.seq_take_succ (s := s0) hjl
          have HST := hid hst
          clear hst hb
          generalize K.addL T[j] (K.seq (T.take j) s0) = z at *
          generalize K.seq (T.take j) s0 = y at *
          go_wp2_with fail
          refine HAD.out.mono ?_
          rintro e w2 ⟨rfl, hb2⟩
          have HB3 := hid (HB2.out.trans (hb2.mono HB2.out.size))
          clear hb2 q0 q1 HAD HB2
          go_wp2
          go_roundw
          case rel => exact ⟨j + 1, by omega, by go_num, by rw [HST.out], HB3.out⟩
          case measure => simp [intOf]; omega
        · have hje : j = T.length := by omega
          subst hje
          rw [List.take_length]
          clear hb
          go_wp2
          go_roundw
          case rel => exact ⟨k + 1, by omega, by go_num, by rw [HN.out], HB2.out⟩
          case measure => simp [intOf]; omega
    · have hke : k = N := by omega
      subst hke
      have HBZ := hid (HB0.out.trans (HB.out.mono HB0.out.size))
      go_wp2
      go_ret
      exact ⟨rfl, HBZ.out⟩
end Go.Proofs.Ytapndndbibgjoaa
