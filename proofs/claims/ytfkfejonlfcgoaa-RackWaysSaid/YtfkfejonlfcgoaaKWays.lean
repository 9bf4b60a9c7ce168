/- The walk of RackWays. -/
import Derived.Test.YtfkfejonlfcgoaaKBrs
import Derived.Test.YtfkfejonlfcgoaaKHkJ
namespace Go.Proofs.Ytfkfejonlfcgoaa
open Go.RowKit Ev

/-- The rods of a set of squares, of the first k squares. -/
def K.bsOf (n set : Nat) : Nat → List Br
  | 0 => []
  | k + 1 => if set.testBit k = true then K.bsOf n set k ++ [(((k / n : Nat) : Int), ((k % n : Nat) : Int), (0 : Int))] else K.bsOf n set k
theorem K.bsOf_len (n set : Nat) : ∀ k, (K.bsOf n set k).length ≤ k
  | 0 => Nat.le_refl _
  | k + 1 => by
    have := K.bsOf_len n set k
    unfold K.bsOf
    split <;> simp <;> omega
theorem K.bsOf_in {m n set : Nat} (hn : 1 ≤ n) : ∀ k, k ≤ m * n → ∀ b ∈ K.bsOf n set k, K.InB m n b
  | 0, _, b, hb => by cases hb
  | k + 1, hk, b, hb => by
    unfold K.bsOf at hb
    split at hb
    · rcases List.mem_append.1 hb with h | h
      · exact K.bsOf_in hn k (by omega) b h
      · rw [List.mem_singleton.1 h]
        have h1 : k / n < m := by rw [Nat.div_lt_iff_lt_mul hn]; omega
        have h2 : k % n < n := Nat.mod_lt _ hn
        exact ⟨Int.natCast_nonneg _, Int.ofNat_lt.2 h1, Int.natCast_nonneg _, Int.ofNat_lt.2 h2⟩
    · exact K.bsOf_in hn k (by omega) b hb
/-- What one more set makes of the count and the least number. -/
def K.more (j : Bool) (len : Nat) (p : Nat × Nat) : Nat × Nat :=
  if j = true then (if len < p.2 then (1, len) else if len = p.2 then (p.1 + 1, p.2) else p) else p
/-- The count and the least number behind so many sets. -/
def K.cntL (m n : Nat) : Nat → Nat × Nat
  | 0 => (0, 100)
  | s + 1 => K.more (K.joined m n (K.bsOf n s (m * n))) (K.bsOf n s (m * n)).length (K.cntL m n s)
def K.waysN (m n : Nat) : Nat := m ^ (n - 1) * n ^ (m - 1)
def K.cntOk (m n : Nat) : Bool := (K.cntL m n (2 ^ (m * n))).1 == K.waysN m n && (K.cntL m n (2 ^ (m * n))).2 == m + n - 1
theorem cnt_all : (List.range 3).all (fun m => (List.range 3).all fun n => K.cntOk (m + 1) (n + 1)) = true := by kernel_rfl
def isWays (v : Option Value) (k : Nat) : Bool := match v with
  | some (.tuple vs) => (match vs.toList with
    | [.int .i64 (.ofNat a), .int .i64 (.ofNat b)] => Nat.beq a k && Nat.beq b 0
    | _ => false)
  | _ => false
theorem ways_all : (List.range 3).all (fun m => (List.range 3).all fun n => isWays (chkP Try.prog hkA 1000 1000 38 [intA (m + 1), intA (n + 1)]) (K.waysN (m + 1) (n + 1))) = true := by kernel_rfl
theorem isWays_eq {v : Option Value} {k : Nat} (h : isWays v k = true) : v = some (.tuple #[.int .i64 (k : Nat), .int .i64 0]) := by
  unfold isWays at h
  split at h
  · rename_i vs
    split at h
    · rename_i a b e
      rw [Bool.and_eq_true] at h
      have h1 := Nat.eq_of_beq_eq_true h.1
      have h2 := Nat.eq_of_beq_eq_true h.2
      subst h1; subst h2
      obtain ⟨l⟩ := vs
      simp only at e
      subst e
      rfl
    · cases h
  · cases h
theorem ways_gives {m n : Nat} (h1 : 1 ≤ m) (h2 : m ≤ 3) (h3 : 1 ≤ n) (h4 : n ≤ 3) : GivesV Try.prog 38 [.int .i64 m, .int .i64 n] (.tuple #[.int .i64 (K.waysN m n : Nat), .int .i64 0]) := by
  have h := List.all_eq_true.1 (List.all_eq_true.1 ways_all (m - 1) (List.mem_range.2 (by omega))) (n - 1) (List.mem_range.2 (by omega))
  rw [show m - 1 + 1 = m by omega, show n - 1 + 1 = n by omega] at h
  exact chkP_sound hkA_ok t_mixed (RelL.cons (RelV.sc _) (RelL.cons (RelV.sc _) (RelL.nil_iff.2 rfl))) (isWays_eq h)
theorem cnt_ok {m n : Nat} (h1 : 1 ≤ m) (h2 : m ≤ 3) (h3 : 1 ≤ n) (h4 : n ≤ 3) : K.cntL m n (2 ^ (m * n)) = (K.waysN m n, m + n - 1) := by
  have h := List.all_eq_true.1 (List.all_eq_true.1 cnt_all (m - 1) (List.mem_range.2 (by omega))) (n - 1) (List.mem_range.2 (by omega))
  rw [show m - 1 + 1 = m by omega, show n - 1 + 1 = n by omega] at h
  unfold K.cntOk at h
  rw [Bool.and_eq_true, beq_iff_eq, beq_iff_eq] at h
  rw [← h.1, ← h.2]
theorem waysN_comm (m n : Nat) : K.waysN n m = K.waysN m n := by unfold K.waysN; rw [Nat.mul_comm]

theorem K.cntL_le (m n : Nat) : ∀ s, (K.cntL m n s).1 ≤ s ∧ (K.cntL m n s).2 ≤ 100
  | 0 => ⟨Nat.le_refl _, Nat.le_refl _⟩
  | s + 1 => by
    have ih := K.cntL_le m n s
    rw [K.cntL]
    unfold K.more
    repeat' split
    all_goals (constructor <;> (try dsimp only) <;> omega)

set_option maxHeartbeats 8000000 in
set_option maxRecDepth 100000 in
theorem rackWays_at (x y m n : Nat) (hx : x < 256) (hy : y < 256) (hm : m = x % 3 + 1) (hn : n = y % 3 + 1) (w : World) :
    Calls Try.prog 12 #[.int .u8 x, .int .u8 y] w fun e w' => e = .returned (.bool true) ∧ Below w.heap.size w w' := by
  have m1 : 1 ≤ m := by omega
  have m3 : m ≤ 3 := by omega
  have n1 : 1 ≤ n := by omega
  have n3 : n ≤ 3 := by omega
  have tx : (x : Int).tmod 3 = ((x % 3 : Nat) : Int) := by rw [Int.tmod_eq_emod_of_nonneg (by omega)]; simp
  have ty : (y : Int).tmod 3 = ((y % 3 : Nat) : Int) := by rw [Int.tmod_eq_emod_of_nonneg (by omega)]; simp
  have ex : (x : Int) % 3 = ((x % 3 : Nat) : Int) := by simp
  have ey : (y : Int) % 3 = ((y % 3 : Nat) : Int) := by simp
  have hme : 1 + ((x % 3 : Nat) : Int) = (m : Int) := by omega
  have hne : 1 + ((y % 3 : Nat) : Int) = (n : Int) := by omega
  have rx : x % 3 ≤ 2 := by omega
  have ry : y % 3 ≤ 2 := by omega
  clear hm hn
  generalize x % 3 = r at *
  generalize y % 3 = q at *
  obtain ⟨i0, hi, hz0, hz1, hz2⟩ := info_parts (show (Try.prog.info? 63).map (fun i => (i.zero, i.size, i.bytes)) = some (some (.agg #[.int .i64 0, .int .i64 0, .int .i64 0]), 3, 24) by kernel_rfl)
  have HW1 := hid (ways_gives m1 m3 n1 n3)
  have HW2 := hid (ways_gives n1 n3 m1 m3)
  rw [waysN_comm] at HW2
  have HCO := hid (cnt_ok m1 m3 n1 n3)
  have HMN : Hid (m * n ≤ 9 ∧ 1 ≤ m * n) := hid (by
    constructor
    · calc m * n ≤ 3 * 3 := Nat.mul_le_mul m3 n3
        _ = 9 := rfl
    · exact Nat.mul_pos m1 n1)
  have hmul : (m : Int) * (n : Int) = ((m * n : Nat) : Int) := by simp
  have hpw : 2 ^ (m * n) ≤ 512 := Nat.pow_le_pow_right (n := 2) (i := m * n) (j := 9) (by decide) HMN.out.1
  have hN9 := HMN.out.1
  have hsh := pow_i64 (p := m * n) (by omega)
  have HBI := hid (fun set k (h : k ≤ m * n) => K.bsOf_in (m := m) (n := n) (set := set) n1 k h)
  generalize hNd : m * n = N at *
  generalize hTd : 2 ^ N = T at *
  have hTd' := hid hTd
  have hsh2 : wrap64 ((2 : Int) ^ N) = (T : Int) := by rw [← IntWalk.i64_left]; exact hsh
  have hNd' := hid hNd
  have HSH := hid (show IntKind.i64.wrap ((2 : Int) ^ N) = (T : Int) ∧ wrap64 ((2 : Int) ^ N) = (T : Int) from ⟨hsh, hsh2⟩)
  clear hTd hNd hsh hsh2
  have HB := hid (Below.refl w.heap.size w)
  have HCW : Hid (∀ s, K.cntL m n (s + 1) = K.more (K.joined m n (K.bsOf n s N)) (K.bsOf n s N).length (K.cntL m n s)) := hid (fun s => by rw [K.cntL, hNd'.out])
  go_enter Try.func12, Try.ntmps12
  go_wp2
  go_loopw [7, 8, 9] (fun c l s wr => ∃ k : Nat, k ≤ T ∧ s = .int .i64 k ∧ c = .int .i64 (K.cntL m n k).1 ∧ l = .int .i64 (K.cntL m n k).2 ∧ Below w.heap.size w wr) (fun _ _ s _ => T - (intOf s).toNat)
  case atStart => exact ⟨0, Nat.zero_le _, rfl, rfl, rfl, HB.out⟩
  case round =>
    obtain ⟨k, hk, rfl, rfl, rfl, hb⟩ := hrel
    have HBR := hid hb
    clear hb
    by_cases hlt : k < T
    · have hCN : K.cntL m n (k + 1) = K.more (K.joined m n (K.bsOf n k N)) (K.bsOf n k N).length ((K.cntL m n k).1, (K.cntL m n k).2) := HCW.out k
      have hcl := K.cntL_le m n k
      have HJ : Hid (∀ a c W, RdB W a (K.bsOf n k N) → Calls Try.prog 47 #[K.rk m n a (K.bsOf n k N).length c] W fun e w' => e = .returned (.bool (K.joined m n (K.bsOf n k N))) ∧ Below W.heap.size W w') := hid (fun a c W hR =>
        joined_any m n a c (K.bsOf n k N) W (by have := K.bsOf_len n k N; unfold maxLen; omega) hR (by omega) (by omega) (HBI.out k N (Nat.le_refl _)))
      have hbl := K.bsOf_len n k N
      generalize (K.cntL m n k).1 = c1 at *
      generalize (K.cntL m n k).2 = l1 at *
      have HCN : Hid (K.cntL m n (k + 1) = K.more (K.joined m n (K.bsOf n k N)) (K.bsOf n k N).length (c1, l1)) := hid hCN
      obtain ⟨hc1, hl2⟩ := hcl
      clear hCN
      have HRV := hid (K.RV.start (m := (m : Int)) (n := (n : Int)) HBR.out)
      have HKT := hid hlt
      obtain ⟨hsh, hsh2⟩ := HSH.out
      go_wp2
      clear hsh hsh2
      generalize wr.alloc (.cells #[.int .i64 (m : Int), .int .i64 (n : Int), .slice none 0 0] 24) = wa at *
      generalize wr.heap.size = gv at *
      clear HBR
      go_loopw [11] (fun s wr => ∃ j : Nat, j ≤ N ∧ s = .int .i64 j ∧ ∃ bv, K.RV w wr gv m n bv (K.bsOf n k j)) (fun s _ => N - (intOf s).toNat)
      case atStart => exact ⟨0, Nat.zero_le _, rfl, _, HRV.out⟩
      case round =>
        clear HRV
        obtain ⟨j, hj, rfl, bv, hrv⟩ := hrel
        have HRV := hid hrv
        clear hrv
        by_cases hjl : j < N
        · have HBS : Hid (K.bsOf n k (j + 1) = if k.testBit j = true then K.bsOf n k j ++ [(((j / n : Nat) : Int), ((j % n : Nat) : Int), (0 : Int))] else K.bsOf n k j) := hid rfl
          have hblj := K.bsOf_len n k j
          have hbit : k.testBit j = decide ((k / 2 ^ j) &&& 1 = 1) := by rw [Nat.testBit_eq_decide_div_mod_eq, Nat.and_one_is_mod]
          have hP : k / 2 ^ j ≤ k := Nat.div_le_self _ _
          have hand := and_i64 (a := k / 2 ^ j) (b := 1) (by omega) (by decide)
          have hA2 : (k / 2 ^ j) &&& 1 ≤ 1 := Nat.and_le_right
          have hdv : (k : Int) / (2 : Int) ^ j = ((k / 2 ^ j : Nat) : Int) := by simp
          have hn0 : ¬ (n : Int) = 0 := by omega
          have hn00 : ¬ n = 0 := by omega
          have hq1 : (j : Int).tdiv (n : Int) = ((j / n : Nat) : Int) := by simp
          have hq2 : (j : Int).tmod (n : Int) = ((j % n : Nat) : Int) := by rw [Int.tmod_eq_emod_of_nonneg (by omega)]; simp
          have hq3 : (j : Int) / (n : Int) = ((j / n : Nat) : Int) := by simp
          have hq4 : (j : Int) % (n : Int) = ((j % n : Nat) : Int) := by simp
          have hD9 : j / n ≤ j := Nat.div_le_self _ _
          have hR9 : j % n ≤ j := Nat.mod_le _ _
          generalize k / 2 ^ j = P at *
          generalize P &&& 1 = A at *
          generalize j / n = D at *
          generalize j % n = R at *
          have hw1 : IntKind.i64.wrap (D : Int) = (D : Int) := IntWalk.i64_in _ (by omega)
          have hix : (0 : Int) ≤ (j : Int) ∧ (j : Int) ≤ 64 := by omega
          have hand' : bits .and .i64 (P : Int) 1 = (A : Int) := hand
          clear hand
          have hAA : A = 0 ∨ A = 1 := by omega
          rcases hAA with rfl | rfl
          · have HN : Hid (K.bsOf n k (j + 1) = K.bsOf n k j) := hid (by rw [HBS.out, hbit]; rfl)
            have hand2 : bits .and .i64 (P : Int) 1 = 0 := hand'
            clear hbit hand' HBS
            go_wp2
            go_roundw
            case rel => exact ⟨j + 1, by omega, by go_num, bv, by rw [HN.out]; exact HRV.out⟩
            case measure => simp [intOf]; omega
          · have HN : Hid (K.bsOf n k (j + 1) = K.bsOf n k j ++ [((D : Int), (R : Int), (0 : Int))]) := hid (by rw [HBS.out, hbit]; rfl)
            have hand2 : bits .and .i64 (P : Int) 1 = 1 := hand'
            clear hbit hand' HBS
            go_wp2
            have HSZ : Hid (wr.heap.size ≤ (wr.alloc (.cells #[.int .i64 (D : Int), .int .i64 (R : Int), .int .i64 0] 63)).heap.size) := hid (by simp)
            have HBK : Hid (∀ k, k < wr.heap.size → (wr.alloc (.cells #[.int .i64 (D : Int), .int .i64 (R : Int), .int .i64 0] 63)).heap[k]? = wr.heap[k]?) := hid (fun k hk => Below.heap_alloc _ _ _ hk)
            have FI := hid (fun (W : World) (hW : Below wr.heap.size wr W) => HRV.out.grown hW)
            have FA := hid (show ∀ W : World, Below wr.heap.size wr W → W.heap = (wr.alloc (.cells #[.int .i64 (D : Int), .int .i64 (R : Int), .int .i64 0] 63)).heap → W.ownsRow (gv + 1) 63 3 bv (K.bsOf n k j).length (brCells (K.bsOf n k j)) ∧ [Value.int .i64 (D : Int), Value.int .i64 (R : Int), Value.int .i64 0].length = 1 * 3 ∧ (∀ k u, [Value.int .i64 (D : Int), Value.int .i64 (R : Int), Value.int .i64 0][k]? = some u → W.cell? ((⟨wr.heap.size, 0, none⟩ : Addr).add k) = some u) ∧ (∀ u ∈ [Value.int .i64 (D : Int), Value.int .i64 (R : Int), Value.int .i64 0], u.oneCell' = true) ∧ (K.bsOf n k j).length + 1 ≤ 1000 ∧ gv + 1 ≤ W.heap.size from fun W hb hW => by
              have hI := HRV.out.grown hb
              refine ⟨hI.row, rfl, ?_, fun u hu => by simp at hu; rcases hu with rfl | rfl | rfl <;> rfl, by omega, hI.var.lt⟩
              intro k u hk
              match k, hk with
              | 0, hk =>
                simp at hk; subst hk
                rw [Addr.add_lit, World.cell?_of_block (w := wr.alloc (.cells #[.int .i64 (D : Int), .int .i64 (R : Int), .int .i64 0] 63)) (by rw [hW]), World.cell?_alloc_at _ _ _ _ rfl]
                rfl
              | 1, hk =>
                simp at hk; subst hk
                rw [Addr.add_lit, World.cell?_of_block (w := wr.alloc (.cells #[.int .i64 (D : Int), .int .i64 (R : Int), .int .i64 0] 63)) (by rw [hW]), World.cell?_alloc_at _ _ _ _ rfl]
                rfl
              | 2, hk =>
                simp at hk; subst hk
                rw [Addr.add_lit, World.cell?_of_block (w := wr.alloc (.cells #[.int .i64 (D : Int), .int .i64 (R : Int), .int .i64 0] 63)) (by rw [hW]), World.cell?_alloc_at _ _ _ _ rfl]
                rfl)
            have v2 := HRV.out.c2
            have v1 := HRV.out.c1
            have g1 : gv < wr.heap.size := HRV.out.var.lt
            go_region_law first | (refine step_append_n rfl (.tmp 48) (.tmp 56) 22 (by rfl) 63 i0 (.agg #[.int .i64 0, .int .i64 0, .int .i64 0]) 3 Try.underlying22 hi hz0 hz1 (by rw [hz2]; decide) rfl (by decide) (gv + 1) bv (K.bsOf n k j).length (brCells (K.bsOf n k j)) (by simp [Act.eval]) ⟨wr.heap.size, 0, none⟩ 1 1 [.int .i64 (D : Int), .int .i64 (R : Int), .int .i64 0] (by simp [Act.eval]) (FA.out _ (by exact ⟨rfl, rfl, rfl, HSZ.out, HBK.out⟩) rfl) ?_; intro v' w8 ho1 hg1 _; obtain ⟨g', cap', rfl, k1, k2, k3, HI9⟩ := (FI.out _ (by exact ⟨rfl, rfl, rfl, HSZ.out, HBK.out⟩)).push HN.out ho1 hg1; clear ho1 hg1)
            all_goals
              go_wp2
              go_roundw
              case rel => exact ⟨j + 1, by omega, by go_num, _, HI9.out⟩
              case measure => simp [intOf]; omega
        · have hje : j = N := by omega
          subst hje
          obtain ⟨a, cap, rfl, hrd⟩ := HRV.out.row.rd
          have HJ2 := hid (HJ.out a cap wr hrd)
          have v0 := HRV.out.c0
          have v1 := HRV.out.c1
          have v2 := HRV.out.c2
          have g1 : gv < wr.heap.size := HRV.out.var.lt
          clear hrd HJ HBI
          generalize K.joined m n (K.bsOf n k j) = J at *
          have hbl2 : (K.bsOf n k j).length ≤ 9 := by omega
          unfold K.rk at HJ2
          go_wp2_with fail
          refine HJ2.out.mono ?_
          rintro e w5 ⟨rfl, hb⟩
          have HRV5 := hid (HRV.out.grown hb)
          have v3 := HRV5.out.c2
          have g2 : gv < w5.heap.size := HRV5.out.var.lt
          clear hb v0 v1 v2 g1
          generalize (K.bsOf n k j).length = L at *
          have HBL := hid HRV5.out.below
          clear HRV HRV5 HJ2
          cases J with
          | false =>
            have HN : Hid (K.cntL m n (k + 1) = (c1, l1)) := hid (by rw [HCN.out]; rfl)
            clear HCN
            go_wp2
            go_roundw
            case rel => exact ⟨k + 1, by omega, by go_num, by rw [HN.out], by rw [HN.out], HBL.out⟩
            case measure => simp [intOf]; omega
          | true =>
            by_cases hLl : L < l1
            · have HN : Hid (K.cntL m n (k + 1) = (1, L)) := hid (by rw [HCN.out]; unfold K.more; rw [if_pos rfl, if_pos hLl])
              clear HCN
              go_wp2
              go_quiet (fail)
              go_wp2
              go_roundw
              case rel => exact ⟨k + 1, by omega, by go_num, by rw [HN.out]; rfl, by rw [HN.out], below_drewN HBL.out _⟩
              case measure => simp [intOf]; omega
            · by_cases hLe : L = l1
              · have HN : Hid (K.cntL m n (k + 1) = (c1 + 1, l1)) := hid (by rw [HCN.out]; unfold K.more; rw [if_pos rfl, if_neg hLl, if_pos hLe])
                subst hLe
                clear HCN
                go_wp2
                go_roundw
                case rel => exact ⟨k + 1, by omega, by go_num, by rw [HN.out]; go_num, by rw [HN.out], HBL.out⟩
                case measure => simp [intOf]; omega
              · have HN : Hid (K.cntL m n (k + 1) = (c1, l1)) := hid (by rw [HCN.out]; unfold K.more; rw [if_pos rfl, if_neg hLl, if_neg hLe])
                have hne : ((L : Int) == (l1 : Int)) = false := by rw [beq_eq_false_iff_ne]; omega
                clear HCN
                go_wp2
                go_roundw
                case rel => exact ⟨k + 1, by omega, by go_num, by rw [HN.out], by rw [HN.out], HBL.out⟩
                case measure => simp [intOf]; omega
    · have hke : k = T := by omega
      subst hke
      have HC1 : Hid ((K.cntL m n k).1 = K.waysN m n ∧ (K.cntL m n k).2 = m + n - 1) := hid (by rw [HCO.out]; exact ⟨rfl, rfl⟩)
      rw [HC1.out.1, HC1.out.2]
      clear HCO HC1 HCW HBI
      have HWK := hid works_gives
      have hsb : (m : Int) + (n : Int) - 1 = ((m + n - 1 : Nat) : Int) := by omega
      generalize K.waysN m n = V at *
      obtain ⟨hsh, hsh2⟩ := HSH.out
      go_wp2_with fail
      refine (HW1.out _).mono ?_
      rintro e w5 ⟨rfl, hb5⟩
      have HB5 := hid (HBR.out.trans (hb5.mono HBR.out.size))
      clear hb5 hsh hsh2
      go_wp2_with fail
      refine (HW2.out _).mono ?_
      rintro e w6 ⟨rfl, hb6⟩
      have HB6 := hid (HB5.out.trans (hb6.mono HB5.out.size))
      clear hb6
      go_wp2_with fail
      refine (HWK.out _).mono ?_
      rintro e w7 ⟨rfl, hb7⟩
      have HB7 := hid (HB6.out.trans (hb7.mono HB6.out.size))
      clear hb7
      go_wp2
      go_ret
      exact ⟨rfl, HB7.out⟩
end Go.Proofs.Ytfkfejonlfcgoaa
