/- Package rack: the walk of arrowsOf. -/
import Derived.Test.YtmbfpekcfeeifaaKDraw
namespace Go.Proofs.Ytmbfpekcfeeifaa
open Go.RowKit

/-- The arrows of braces. -/
def K.leads (m : Nat) (bs : List Br) : Nat → Nat → Bool := bs.foldl (fun M b => K.drawn M b.1.toNat (m + b.2.1.toNat) b.2.2) (fun _ _ => false)
theorem K.leads_take {m : Nat} {bs : List Br} {k : Nat} (h : k < bs.length) : K.leads m (bs.take (k + 1)) = K.drawn (K.leads m (bs.take k)) bs[k].1.toNat (m + bs[k].2.1.toNat) bs[k].2.2 := by
  unfold K.leads
  rw [List.take_succ_eq_append_getElem h, List.foldl_append]
  rfl

def isFalse : Option Value → Bool
  | some (.bool false) => true
  | _ => false
theorem isFalse_eq {v : Option Value} (h : isFalse v = true) : v = some (.bool false) := by
  unfold isFalse at h
  split at h
  · rfl
  · cases h
theorem zeros_all : ((List.range 147).all fun j => Nat.blt j 3 || isFalse (Try.zeroCells119[j]?)) = true := by kernel_rfl
theorem zeros_at {j : Nat} (h1 : 3 ≤ j) (h2 : j < 147) : Try.zeroCells119[j]? = some (.bool false) := by
  have := List.all_eq_true.1 zeros_all j (List.mem_range.2 h2)
  rw [Bool.or_eq_true] at this
  rcases this with h | h
  · rw [Nat.blt_eq] at h; omega
  · exact isFalse_eq h
theorem arr_new (w : World) (m n : Nat) (sl : Value) : ArrAt (w.alloc (.cells (((Try.zeroCells119.setIfInBounds 0 (.int .i64 (m : Int))).setIfInBounds 1 (.int .i64 (n : Int))).setIfInBounds 2 sl) 119)) w.heap.size m n sl (fun _ _ => false) := by
  have hs : (((Try.zeroCells119.setIfInBounds 0 (.int .i64 (m : Int))).setIfInBounds 1 (.int .i64 (n : Int))).setIfInBounds 2 sl).size = 147 := by simp
  have := World.rowIs_alloc w (((Try.zeroCells119.setIfInBounds 0 (.int .i64 (m : Int))).setIfInBounds 1 (.int .i64 (n : Int))).setIfInBounds 2 sl) 119 (K.arrF m n sl (fun _ _ => false)) (fun i hi => by
    rw [hs] at hi
    unfold K.arrF
    by_cases e2 : i = 2
    · subst e2
      rw [Array.getElem?_setIfInBounds_self_of_lt (by simp)]
      rfl
    rw [Array.getElem?_setIfInBounds_ne (by omega)]
    by_cases e1 : i = 1
    · subst e1
      rw [Array.getElem?_setIfInBounds_self_of_lt (by simp)]
      rfl
    rw [Array.getElem?_setIfInBounds_ne (by omega)]
    by_cases e0 : i = 0
    · subst e0
      rw [Array.getElem?_setIfInBounds_self_of_lt (by simp)]
      rfl
    rw [Array.getElem?_setIfInBounds_ne (by omega), if_neg e0, if_neg e1, if_neg e2]
    exact zeros_at (by omega) hi)
  rw [hs] at this
  exact this

set_option maxHeartbeats 4000000 in
set_option maxRecDepth 100000 in
theorem arrowsOf_any (m n : Nat) (a : Option Addr) (c : Nat) (bs : List Br) (w : World) (hm : bs.length ≤ maxLen) (hR : RdB w a bs) (h1 : m ≤ 6) (h2 : n ≤ 6) (hv : ∀ b ∈ bs, K.InB m n b) :
    Calls Try.prog 72 #[K.rk m n a bs.length c] w fun e w' => ∃ g, e = .returned (.pointer (some ⟨g, 0, none⟩)) ∧ w.heap.size ≤ g ∧ ArrAt w' g m n (.slice a bs.length c) (K.leads m bs) ∧ Below w.heap.size w w' := by
  have hb0 : Below w.heap.size w (w.alloc (.cells #[.int .i64 (m : Int), .int .i64 (n : Int), .slice a bs.length c] 24)) := (Below.refl _ _).alloc (Nat.le_refl _) _
  have k0 : (w.alloc (.cells #[.int .i64 (m : Int), .int .i64 (n : Int), .slice a bs.length c] 24)).cell? ⟨w.heap.size, 0, none⟩ = some (.int .i64 m) := by rw [World.cell?_alloc_at _ _ _ _ rfl]; rfl
  have k1 : (w.alloc (.cells #[.int .i64 (m : Int), .int .i64 (n : Int), .slice a bs.length c] 24)).cell? ⟨w.heap.size, 1, none⟩ = some (.int .i64 n) := by rw [World.cell?_alloc_at _ _ _ _ rfl]; rfl
  have k2 : (w.alloc (.cells #[.int .i64 (m : Int), .int .i64 (n : Int), .slice a bs.length c] 24)).cell? ⟨w.heap.size, 2, none⟩ = some (.slice a bs.length c) := by rw [World.cell?_alloc_at _ _ _ _ rfl]; rfl
  have HB0 := hid hb0
  have HK2 := hid k2
  have HR := hid hR
  have HV := hid hv
  clear hb0 hR hv
  unfold maxLen at hm
  unfold K.rk
  go_enter Try.func72, Try.ntmps72
  go_wp2_with fail
  have HS1 : Hid ((w.alloc (.cells #[.int .i64 (m : Int), .int .i64 (n : Int), .slice a bs.length c] 24)).heap.size = w.heap.size + 1) := hid (by simp)
  generalize hw1 : w.alloc (.cells #[.int .i64 (m : Int), .int .i64 (n : Int), .slice a bs.length c] 24) = w1 at *
  clear hw1
  have HSZ : Hid (w.heap.size < w1.heap.size) := hid (World.block_lt_of_cell? _ _ k0)
  have HA0 := hid (arr_new w1 m n (.slice a bs.length c))
  have HB1 : Hid (Below w.heap.size w (w1.alloc (.cells (((Try.zeroCells119.setIfInBounds 0 (.int .i64 (m : Int))).setIfInBounds 1 (.int .i64 (n : Int))).setIfInBounds 2 (.slice a bs.length c)) 119))) := hid (HB0.out.alloc (by have := HSZ.out; omega) _)
  rw [HS1.out] at HA0
  generalize w1.alloc (.cells (((Try.zeroCells119.setIfInBounds 0 (.int .i64 (m : Int))).setIfInBounds 1 (.int .i64 (n : Int))).setIfInBounds 2 (.slice a bs.length c)) 119) = w2 at *
  clear k0 k1 k2
  go_loopw [12] (fun i wr => ∃ k : Nat, k ≤ bs.length ∧ i = .int .i64 k ∧ ArrAt wr (w.heap.size + 1) m n (.slice a bs.length c) (K.leads m (bs.take k)) ∧ Below w.heap.size w wr) (fun i _ => bs.length - (intOf i).toNat)
  case atStart => exact ⟨0, Nat.zero_le _, rfl, HA0.out, HB1.out⟩
  case round =>
    obtain ⟨k, hk, rfl, hA, hb⟩ := hrel
    have HA := hid hA
    have HB := hid hb
    clear hA hb
    by_cases hlt : k < bs.length
    · obtain ⟨b, off, rfl, c1, c2, c3⟩ := (HR.out.stays HB.out) k hlt
      have HL := hid (K.leads_take (m := m) hlt)
      have hin := HV.out _ (List.getElem_mem hlt)
      generalize bs[k] = br at *
      obtain ⟨x, y, z⟩ := br
      obtain ⟨g1, g2, g3, g4⟩ := hin
      simp only at g1 g2 g3 g4 c1 c2 c3
      obtain ⟨p, rfl⟩ : ∃ p : Nat, x = (p : Int) := ⟨x.toNat, by omega⟩
      obtain ⟨q, rfl⟩ : ∃ q : Nat, y = (q : Int) := ⟨y.toNat, by omega⟩
      have hp : p < 6 := by omega
      have hq : q < 6 := by omega
      clear g1 g2 g3 g4
      have hsz := HA.out.lt
      have HD := hid (draw_any (w.heap.size + 1) m n (.slice (some ⟨b, off, none⟩) bs.length c) (K.leads m (bs.take k)) p q z _ (HA.out.alloc (.cells #[.int .i64 (p : Int), .int .i64 (q : Int), .int .i64 z] 63)) h1 hp hq)
      have HB2 := hid (HB.out.alloc HB.out.size (.cells #[.int .i64 (p : Int), .int .i64 (q : Int), .int .i64 z] 63))
      have hix : (0 : Int) ≤ (k : Int) ∧ (k : Int) < (bs.length : Int) := by omega
      go_wp2_with fail
      refine HD.out.mono ?_
      rintro e w' ⟨rfl, hA', hb'⟩
      have HA' : Hid (ArrAt w' (w.heap.size + 1) m n (.slice (some ⟨b, off, none⟩) bs.length c) (K.leads m (bs.take (k + 1)))) := hid (by rw [HL.out]; exact hA')
      have HB' : Hid (Below w.heap.size w w') := hid (HB2.out.trans (hb'.below (by omega) HB2.out.size))
      clear hA' hb'
      go_wp2
      go_roundw
      case rel => exact ⟨k + 1, by omega, by go_num, HA'.out, HB'.out⟩
      case measure => simp [intOf]; omega
    · have hke : k = bs.length := by omega
      subst hke
      have HA' : Hid (ArrAt wr (w.heap.size + 1) m n (.slice a bs.length c) (K.leads m bs)) := hid (by have := HA.out; rwa [List.take_length] at this)
      go_wp2
      go_ret
      exact ⟨_, rfl, Nat.le_succ _, HA'.out, HB.out⟩
end Go.Proofs.Ytmbfpekcfeeifaa
