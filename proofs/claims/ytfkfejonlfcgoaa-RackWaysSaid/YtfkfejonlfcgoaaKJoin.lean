/- Package tuschelaw05: the walk of joined. -/
import Derived.Test.YtfkfejonlfcgoaaKRead
import Derived.BigQuiet
import Derived.Test.YtfkfejonlfcgoaaRows
namespace Go.Proofs.Ytfkfejonlfcgoaa
open Go.RowKit

set_option maxHeartbeats 4000000 in
set_option maxRecDepth 100000 in
theorem joined_any (m n : Nat) (a : Option Addr) (c : Nat) (bs : List Br) (w : World) (hm : bs.length ≤ maxLen) (hR : RdB w a bs) (h1 : 1 ≤ m + n) (h2 : m + n ≤ 12) (hv : ∀ b ∈ bs, K.InB m n b) :
    Calls Try.prog 47 #[K.rk m n a bs.length c] w fun e w' => e = .returned (.bool (K.joined m n bs)) ∧ Below w.heap.size w w' := by
  have hb0 : Below w.heap.size w (w.alloc (.cells #[.int .i64 (m : Int), .int .i64 (n : Int), .slice a bs.length c] 24)) := (Below.refl _ _).alloc (Nat.le_refl _) _
  have k0 : (w.alloc (.cells #[.int .i64 (m : Int), .int .i64 (n : Int), .slice a bs.length c] 24)).cell? ⟨w.heap.size, 0, none⟩ = some (.int .i64 m) := by rw [World.cell?_alloc_at _ _ _ _ rfl]; rfl
  have k1 : (w.alloc (.cells #[.int .i64 (m : Int), .int .i64 (n : Int), .slice a bs.length c] 24)).cell? ⟨w.heap.size, 1, none⟩ = some (.int .i64 n) := by rw [World.cell?_alloc_at _ _ _ _ rfl]; rfl
  have k2 : (w.alloc (.cells #[.int .i64 (m : Int), .int .i64 (n : Int), .slice a bs.length c] 24)).cell? ⟨w.heap.size, 2, none⟩ = some (.slice a bs.length c) := by rw [World.cell?_alloc_at _ _ _ _ rfl]; rfl
  have HB0 := hid hb0
  have HK0 := hid k0
  have HK1 := hid k1
  have HK2 := hid k2
  have HT := hid (hR.stays hb0)
  have HV := hid hv
  have HL := hid (fun i => K.metAt_lt hv h1 i)
  have H12 : Hid (2 ^ (m + n) ≤ 4096) := hid (Nat.pow_le_pow_right (n := 2) (i := m + n) (j := 12) (by decide) h2)
  clear hb0 hR hv
  unfold maxLen at hm
  unfold K.rk
  go_enter Try.func47, Try.ntmps47
  go_wp2_with fail
  generalize hw1 : w.alloc (.cells #[.int .i64 (m : Int), .int .i64 (n : Int), .slice a bs.length c] 24) = w1 at *
  clear hw1
  have HSZ : Hid (w.heap.size < w1.heap.size) := hid (World.block_lt_of_cell? _ _ k0)
  clear k0 k1 k2
  go_loopw [3, 12] (fun s i wr => ∃ k : Nat, k ≤ m + n ∧ i = .int .i64 k ∧ s = .int .i64 (K.metAt m bs k : Nat) ∧ Below w1.heap.size w1 wr) (fun _ i _ => m + n - (intOf i).toNat)
  case atStart => exact ⟨0, Nat.zero_le _, rfl, rfl, Below.refl _ _⟩
  case round =>
    obtain ⟨k, hk, rfl, rfl, hq⟩ := hrel
    have HQ := hid hq
    have q0 := cell_stays hq (Nat.le_refl _) HK0.out
    have q1 := cell_stays hq (Nat.le_refl _) HK1.out
    have q2 := cell_stays hq (Nat.le_refl _) HK2.out
    clear hq
    by_cases hlt : k < m + n
    · have HN : Hid (K.metAt m bs (k + 1) = K.pass m bs (K.metAt m bs k)) := hid rfl
      have HLK := hid (HL.out k)
      generalize K.metAt m bs k = s at *
      go_wp2
      clear q0 q1 q2
      go_loopw [3, 17] (fun s' i wr2 => ∃ j : Nat, j ≤ bs.length ∧ i = .int .i64 j ∧ s' = .int .i64 (K.pass m (bs.take j) s : Nat) ∧ Below w1.heap.size w1 wr2) (fun _ i _ => bs.length - (intOf i).toNat)
      case atStart => exact ⟨0, Nat.zero_le _, rfl, rfl, HQ.out⟩
      case round =>
        obtain ⟨j, hj, rfl, rfl, hq⟩ := hrel
        have HQ2 := hid hq
        have q0 := cell_stays hq (Nat.le_refl _) HK0.out
        have q1 := cell_stays hq (Nat.le_refl _) HK1.out
        have q2 := cell_stays hq (Nat.le_refl _) HK2.out
        have hsz : w.heap.size < wr.heap.size := Nat.lt_of_lt_of_le HSZ.out hq.size
        clear hq
        by_cases hjl : j < bs.length
        · obtain ⟨b, off, rfl, c1, c2, c3⟩ := (HT.out.stays HQ2.out) j hjl
          have HP := hid (K.pass_take (m := m) (s := s) hjl)
          have HPL : Hid (K.pass m (bs.take j) s < 2 ^ (m + n)) := hid (K.pass_lt (fun b hb => HV.out b (List.mem_of_mem_take hb)) HLK.out)
          have hin := HV.out _ (List.getElem_mem hjl)
          have hT := K.two_lt hin
          generalize bs[j] = br at *
          obtain ⟨x, y, z⟩ := br
          obtain ⟨g1, g2, g3, g4⟩ := hin
          simp only at g1 g2 g3 g4 c1 c2 c3
          obtain ⟨p, rfl⟩ : ∃ p : Nat, x = (p : Int) := ⟨x.toNat, by omega⟩
          obtain ⟨q, rfl⟩ : ∃ q : Nat, y = (q : Int) := ⟨y.toNat, by omega⟩
          have hp : p < m := by omega
          have hq' : q < n := by omega
          clear g1 g2 g3 g4
          have e1 := pow_i64 (p := p) (by omega)
          have e2 := pow_i64 (p := m + q) (by omega)
          have l1 : 2 ^ p < 4096 := Nat.pow_lt_pow_right (a := 2) (n := 12) (by decide) (by omega)
          have l2 : 2 ^ (m + q) < 4096 := Nat.pow_lt_pow_right (a := 2) (n := 12) (by decide) (by omega)
          have e3 := or_i64 l1 l2
          have hTW : K.two m ((p : Int), (q : Int), z) = 2 ^ p ||| 2 ^ (m + q) := by simp [K.two]
          rw [← hTW] at e3
          have hTL : K.two m ((p : Int), (q : Int), z) < 4096 := Nat.lt_of_lt_of_le hT H12.out
          have hSL : K.pass m (bs.take j) s < 4096 := Nat.lt_of_lt_of_le HPL.out H12.out
          have HM : Hid (∀ v, K.meet m v ((p : Int), (q : Int), z) = if v &&& K.two m ((p : Int), (q : Int), z) = 0 then v else v ||| K.two m ((p : Int), (q : Int), z)) := hid (fun _ => rfl)
          have e4 := and_i64 hSL hTL
          have e5 := or_i64 hSL hTL
          generalize K.pass m (bs.take j) s = v at *
          rw [HM.out] at HP
          generalize K.two m ((p : Int), (q : Int), z) = t at *
          generalize 2 ^ p = pp at *
          generalize 2 ^ (m + q) = qq at *
          generalize v ||| t = v2 at *
          generalize v &&& t = v3 at *
          have ht1 : ((m : Int) + (q : Int)).toNat = m + q := by omega
          have hix : (0 : Int) ≤ (j : Int) ∧ (j : Int) < (bs.length : Int) := by omega
          clear hT hTW HM
          by_cases h0 : v3 = 0
          · subst h0
            rw [if_pos rfl] at HP
            go_wp2
            go_quiet (fail)
            go_wp2
            go_roundw
            case rel => exact ⟨j + 1, by omega, by go_num, by rw [HP.out], below_drewN (HQ2.out.alloc HQ2.out.size _) _⟩
            case measure => simp [intOf]; omega
          · have h0' : ((v3 : Int) != 0) = true := by simp; omega
            rw [if_neg h0] at HP
            go_wp2
            go_quiet (fail)
            go_wp2
            go_roundw
            case rel => exact ⟨j + 1, by omega, by go_num, by rw [HP.out], below_drewN (HQ2.out.alloc HQ2.out.size _) _⟩
            case measure => simp [intOf]; omega
        · have hje : j = bs.length := by omega
          subst hje
          go_wp2
          go_roundw
          case rel => exact ⟨k + 1, by omega, by go_num, by rw [HN.out, List.take_length], HQ2.out⟩
          case measure => simp [intOf]; omega
    · have hke : k = m + n := by omega
      subst hke
      have HE : Hid ((((K.metAt m bs (m + n) : Nat) : Int) == wrap64 (wrap64 (2 ^ (m + n)) - 1)) = K.joined m n bs) := hid (by
        have e2 : wrap64 (2 ^ (m + n)) = ((2 ^ (m + n) : Nat) : Int) := by rw [← IntWalk.i64_left]; exact pow_i64 (p := m + n) h2
        have hp1 : 1 ≤ 2 ^ (m + n) := Nat.one_le_two_pow
        have h12 := H12.out
        unfold K.joined
        rw [e2]
        generalize 2 ^ (m + n) = pp at *
        have hsub : wrap64 ((pp : Int) - 1) = ((pp - 1 : Nat) : Int) := by
          rw [IntWalk.wrap64_in _ (by omega)]; omega
        generalize K.metAt m bs (m + n) = s
        rw [hsub, Bool.eq_iff_iff]
        simp only [beq_iff_eq]
        omega)
      generalize K.metAt m bs (m + n) = s at *
      go_wp2
      go_ret
      exact ⟨ret_bool HE.out, HB0.out.trans (HQ.out.mono HB0.out.size)⟩
end Go.Proofs.Ytfkfejonlfcgoaa
