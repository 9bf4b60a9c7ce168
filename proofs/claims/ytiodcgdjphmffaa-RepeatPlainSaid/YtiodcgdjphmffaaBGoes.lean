/- Package tuschelaw08: common, goes. -/
import Derived.Test.YtiodcgdjphmffaaBNum
import Derived.Lib.OthersKept
import Derived.BigQuiet
namespace Go.Proofs.Ytiodcgdjphmffaa
open Go.RowKit

set_option maxHeartbeats 400000 in
theorem common_any (a b : Nat) (w : World) (ha : a ≤ 1000) (hb : b ≤ 1000) :
    Calls Try.prog 37 #[.int .i64 a, .int .i64 b] w fun e w' => e = .returned (.int .i64 (Nat.gcd a b : Nat)) ∧ Below w.heap.size w w' := by
  go_enter Try.func37, Try.ntmps37
  go_wp2
  go_loopw [0, 1] (fun x y wr => ∃ c d : Nat, x = .int .i64 c ∧ y = .int .i64 d ∧ c ≤ 1000 ∧ d ≤ 1000 ∧ Nat.gcd c d = Nat.gcd a b ∧ Below w.heap.size w wr) (fun _ y _ => (intOf y).toNat)
  case atStart => exact ⟨a, b, rfl, rfl, ha, hb, rfl, Below.refl _ _⟩
  case round =>
    obtain ⟨c, d, rfl, rfl, hc, hd, hg, hbel⟩ := hrel
    have HG := hid hg; clear hg
    have HB := hid hbel; clear hbel
    by_cases h0 : d = 0
    · have hz : ¬ (0 : Int) < (d : Int) := by omega
      have hG2 : Hid (c = Nat.gcd a b) := by have := HG.out; subst h0; simpa [Hid] using this
      clear h0
      go_wp2
      go_ret
      exact ⟨ret_int (by rw [← hG2.out]), HB.out⟩
    · have hz : (0 : Int) < (d : Int) := by omega
      have hz2 : ¬ (d : Int) = 0 := by omega
      have hz3 : (1 : Int) ≤ d := by omega
      have hm : c % d < d := Nat.mod_lt _ (by omega)
      have HN : Hid ((c : Int) % d = ((c % d : Nat) : Int)) := hid (by simp)
      have HG2 : Hid (Nat.gcd d (c % d) = Nat.gcd a b) := hid (by rw [← HG.out, Nat.gcd_comm, ← Nat.gcd_rec, Nat.gcd_comm])
      clear h0
      go_wp2
      go_quiet (fail)
      go_wp2
      go_roundw
      case rel => exact ⟨d, c % d, rfl, by rw [HN.out], hd, by omega, HG2.out, below_drewN HB.out _⟩
      case measure => simp [intOf]; omega

/-- A number is a period, by the distances of equal figures. -/
def B.goes (l : List UInt8) (p : Nat) : Bool := decide (1 ≤ p) && (decide (p ≤ l.length) && B.per l p)
theorem B.per_iff (l : List UInt8) (p : Nat) : B.per l p = true ↔ ∀ i (_ : i < l.length), p ≤ i → l[i]? = l[i - p]? := by
  unfold B.per
  rw [List.isPrefixOf_iff_prefix, List.prefix_iff_getElem?]
  constructor
  · intro h i hi hp
    have hd : i - p < (l.drop p).length := by rw [List.length_drop]; omega
    have h1 := h (i - p) hd
    rw [h1, List.getElem_drop, List.getElem?_eq_getElem hi]
    simp only [show p + (i - p) = i by omega]
  · intro h i hi
    rw [List.length_drop] at hi
    have h1 := h (p + i) (by omega) (by omega)
    rw [show p + i - p = i by omega, List.getElem?_eq_getElem (show p + i < l.length by omega)] at h1
    rw [List.getElem_drop, ← h1]
theorem B.byte_eq (s : ByteArray) (i j : Nat) (hi : i < s.size) (hj : j < s.size) : s.data.toList[i]? = s.data.toList[j]? ↔ (s[i].toNat : Int) = (s[j].toNat : Int) := by
  rw [List.getElem?_eq_getElem (by rw [B.len]; exact hi), List.getElem?_eq_getElem (by rw [B.len]; exact hj)]
  have e1 : s.data.toList[i]'(by rw [B.len]; exact hi) = s[i] := rfl
  have e2 : s.data.toList[j]'(by rw [B.len]; exact hj) = s[j] := rfl
  rw [e1, e2, Option.some.injEq, ← UInt8.toNat_inj]
  omega

set_option maxHeartbeats 1000000 in
set_option maxRecDepth 100000 in
theorem goes_any (s : ByteArray) (p : Nat) (w : World) (hs : s.size ≤ 1000) (hp : p ≤ 1000) (hasc : ∀ i (h : i < s.size), (s[i]'h).toNat < 128) :
    Calls Try.prog 38 #[.string s, .int .i64 p] w fun e w' => e = .returned (.bool (B.goes s.data.toList p)) ∧ Below w.heap.size w w' := by
  have HA := hid hasc; clear hasc
  go_enter Try.func38, Try.ntmps38
  go_wp2
  go_loopg [8] s.size (fun g _ wr => ∃ k : Nat, k ≤ s.size ∧ g = s.size - k ∧ wr.heap[w.heap.size]? = some (.stringIter s k) ∧ Below w.heap.size w wr ∧ Hid (∀ i, i < k → p ≤ i → s.data.toList[i]? = s.data.toList[i - p]?))
  case atStart => exact ⟨0, Nat.zero_le _, rfl, World.iter_heap _ _ _, below_iter _ _ _, hid (fun i h => absurd h (Nat.not_lt_zero _))⟩
  case round =>
    obtain ⟨k, hk, rfl, hit, hbel, HS⟩ := hrel
    have HB := hid hbel; clear hbel
    by_cases hlt : k < s.size
    · have h128 := HA.out k hlt
      have hnx : ∀ ty, (Instr.next (.pointer (some ⟨w.heap.size, 0, none⟩)) true ty).run Try.prog wr = _ := fun ty => Lib.run_next_ascii_at wr w.heap.size s k ty hit hlt h128
      have HIT : Hid (∀ q, (wr.iterAt w.heap.size s q).heap[w.heap.size]? = some (.stringIter s q)) := hid (fun q => Lib.iterAt_heap wr w.heap.size s k q hit)
      have HBT : Hid (∀ q, Below w.heap.size w (wr.iterAt w.heap.size s q)) := hid (fun q => Lib.below_iterAt HB.out (Nat.le_refl _) s q)
      clear hit
      by_cases hpk : p ≤ k
      · have hd : decide ((p : Int) ≤ (k : Int)) = true := by simpa using hpk
        have hpk2 : (p : Int) ≤ (k : Int) := by omega
        have hsub : (k : Int) - (p : Int) = ((k - p : Nat) : Int) := by omega
        have hix1 : (0 : Int) ≤ (k : Int) ∧ (k : Int) < (s.size : Int) := by omega
        have hkp : k - p < s.size := by omega
        have hix2 : (0 : Int) ≤ ((k - p : Nat) : Int) ∧ ((k - p : Nat) : Int) < (s.size : Int) := by omega
        have HEQ := hid (B.byte_eq s k (k - p) hlt hkp)
        by_cases he : ((s[k]'hlt).toNat : Int) = ((s[k - p]'hkp).toNat : Int)
        · have hne : (((s[k]'hlt).toNat : Int) != ((s[k - p]'hkp).toNat : Int)) = false := by simp [he]
          have HST : Hid (∀ i, i < k + 1 → p ≤ i → s.data.toList[i]? = s.data.toList[i - p]?) := hid (fun i hi h => by
            by_cases e : i = k
            · rw [e]; exact HEQ.out.2 he
            · exact HS.out i (by omega) h)
          clear he
          go_wp2
          go_quiet (fail)
          go_wp2
          go_roundg (s.size - (k + 1))
          case measure => omega
          case rel => exact ⟨k + 1, by omega, rfl, by simpa using HIT.out (k + 1), below_drewN (HBT.out _) _, HST⟩
        · have hne : (((s[k]'hlt).toNat : Int) != ((s[k - p]'hkp).toNat : Int)) = true := by simpa using he
          have HF : Hid (B.goes s.data.toList p = false) := hid (by
            unfold B.goes
            have : B.per s.data.toList p = false := by
              rw [Bool.eq_false_iff]
              intro h
              exact he (HEQ.out.1 ((B.per_iff _ _).1 h k (by rw [B.len]; exact hlt) hpk))
            rw [this]; simp)
          clear he
          go_wp2
          go_quiet (fail)
          go_wp2
          go_ret
          exact ⟨by rw [HF.out]; rfl, below_drewN (HBT.out _) _⟩
      · have hd : decide ((p : Int) ≤ (k : Int)) = false := by simpa using hpk
        have hdn : decide (p ≤ k) = false := by simpa using hpk
        have hix1 : (0 : Int) ≤ (k : Int) ∧ (k : Int) < (s.size : Int) := by omega
        have HST : Hid (∀ i, i < k + 1 → p ≤ i → s.data.toList[i]? = s.data.toList[i - p]?) := hid (fun i hi h => HS.out i (by omega) h)
        clear hpk
        go_wp2
        go_quiet (fail)
        go_wp2
        go_roundg (s.size - (k + 1))
        case measure => omega
        case rel => exact ⟨k + 1, by omega, rfl, by simpa using HIT.out (k + 1), below_drewN (HBT.out _) _, HST⟩
    · have hk' : k = s.size := by omega
      subst hk'
      have hnx : ∀ ty, (Instr.next (.pointer (some ⟨w.heap.size, 0, none⟩)) true ty).run Try.prog wr = _ := fun ty => Lib.run_next_end_at wr w.heap.size s s.size ty hit (by omega)
      have HE : Hid (B.per s.data.toList p = true) := hid ((B.per_iff _ _).2 (fun i hi h => HS.out i (by rwa [B.len] at hi) h))
      have HL : Hid (B.goes s.data.toList p = (decide (1 ≤ p) && decide (p ≤ s.size))) := hid (by unfold B.goes; rw [HE.out, B.len, Bool.and_true])
      clear hit
      by_cases h1 : 1 ≤ p
      · have hd1 : decide ((1 : Int) ≤ (p : Int)) = true := decide_eq_true (by omega)
        have HF : Hid (B.goes s.data.toList p = decide (p ≤ s.size)) := hid (by rw [HL.out]; simp [h1])
        clear h1
        go_wp2
        go_ret
        exact ⟨by rw [HF.out]; rfl, HB.out⟩
      · have hd1 : decide ((1 : Int) ≤ (p : Int)) = false := decide_eq_false (by omega)
        have HF : Hid (B.goes s.data.toList p = false) := hid (by rw [HL.out]; simp [h1])
        clear h1
        go_wp2
        go_ret
        exact ⟨by rw [HF.out]; rfl, HB.out⟩
end Go.Proofs.Ytiodcgdjphmffaa
