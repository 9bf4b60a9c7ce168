/- Package hours: the walks of lengthOf and of what it gathers. -/
import Derived.Test.YthlcnklbeolhpaaHStp
namespace Go.Proofs.Ythlcnklbeolhpaa
open Go.RowKit

/-- The length of steps. -/
def H.len (L : List Stp) : Int := H.sum (L.map (·.1))
theorem H.len_take {L : List Stp} {k : Nat} (h : k < L.length) : H.len (L.take (k + 1)) = H.len (L.take k) + L[k].1 := by
  unfold H.len
  rw [List.map_take, List.map_take, H.sum_take (by simpa using h)]
  simp
theorem H.len_bd {L : List Stp} (h : ∀ p ∈ L, 1 ≤ p.1 ∧ p.1 ≤ 1100) : 0 ≤ H.len L ∧ H.len L ≤ 1100 * L.length := by
  unfold H.len
  have := H.sum_bd (b := 1100) (l := L.map (·.1)) (fun x hx => by
    obtain ⟨p, hp, rfl⟩ := List.mem_map.1 hx
    have := h p hp
    omega)
  rwa [List.length_map] at this
theorem lengthOf1_any (m h : Int) (r : Option Addr) (n rc : Nat) (w : World) (hm : 0 ≤ m ∧ m ≤ 1000000) (hh : 1 ≤ h ∧ h ≤ 1100) :
    Calls Try.prog 103 #[.int .i64 m, .agg #[.int .i64 h, .slice r n rc]] w fun e w' => e = .returned (.int .i64 (m + h)) ∧ Below w.heap.size w w' := by
  have HB0 := hid ((Below.refl w.heap.size w).alloc (Nat.le_refl _) (.cells #[.int .i64 h, .slice r n rc] 47))
  have hw : IntKind.i64.wrap (m + h) = m + h := IntWalk.i64_in _ (by omega)
  go_enter Try.func103, Try.ntmps103
  go_wp2
  go_ret
  exact ⟨rfl, HB0.out⟩

set_option maxHeartbeats 1000000 in
set_option maxRecDepth 100000 in
theorem gatheredStep_any (a : Option Addr) (c : Nat) (L : List Stp) (w : World) (hl : L.length ≤ 200) (hh : ∀ p ∈ L, 1 ≤ p.1 ∧ p.1 ≤ 1100) (hx : RdS w a L) :
    Calls Try.prog 102 #[.slice a L.length c, .func (.func 103) #[] #[]] w fun e w' => e = .returned (.int .i64 (H.len L)) ∧ Below w.heap.size w w' := by
  have HX := hid hx
  have HT := hid (fun k (h : k < L.length) => H.len_take (L := L) h)
  have HE : Hid (H.len (L.take L.length) = H.len L) := hid (by rw [List.take_length])
  have HBD := hid (fun k => show 0 ≤ H.len (L.take k) ∧ H.len (L.take k) ≤ 1000000 from by
    have := H.len_bd (L := L.take k) (fun p hp => hh p (List.mem_of_mem_take hp))
    have h2 : (L.take k).length ≤ 200 := by rw [List.length_take]; omega
    omega)
  have HH := hid (fun k (h : k < L.length) => hh L[k] (List.getElem_mem h))
  clear hx hh
  go_enter Try.func102, Try.ntmps102
  go_wp2
  go_loopw [5, 10] (fun v i wr => ∃ k : Nat, k ≤ L.length ∧ i = .int .i64 k ∧ v = .int .i64 (H.len (L.take k)) ∧ Below w.heap.size w wr) (fun _ i _ => L.length - (intOf i).toNat)
  case atStart => exact ⟨0, Nat.zero_le _, rfl, by rw [List.take_zero]; rfl, Below.refl _ _⟩
  case round =>
    obtain ⟨k, hk, rfl, rfl, hb⟩ := hrel
    have HB := hid hb
    clear hb
    by_cases hlt : k < L.length
    · obtain ⟨b, off, r, rc, rfl, q1, q2, _⟩ := (HX.out.stays HB.out) k hlt
      have HBA := hid (HB.out.alloc HB.out.size (.cells #[.int .i64 L[k].1, .slice r L[k].2.length rc] 47))
      have HF := hid (fun W => lengthOf1_any (H.len (L.take k)) L[k].1 r L[k].2.length rc W (HBD.out k) (HH.out k hlt))
      have HTK := hid (HT.out k hlt)
      generalize L[k].1 = x at *
      generalize L[k].2.length = y at *
      generalize H.len (L.take k) = t at *
      have hix : (0 : Int) ≤ (k : Int) ∧ (k : Int) < (L.length : Int) := by omega
      go_wp2_with fail
      refine (HF.out _).mono ?_
      rintro e w' ⟨rfl, hb⟩
      have HB2 := hid (HBA.out.trans (hb.mono HBA.out.size))
      clear hb
      go_wp2
      go_roundw
      case rel => exact ⟨k + 1, by omega, by go_num, by rw [HTK.out], HB2.out⟩
      case measure => simp [intOf]; omega
    · have hke : k = L.length := by omega
      subst hke
      go_wp2
      go_ret
      exact ⟨ret_int HE.out, HB.out⟩
theorem lengthOf_any (a : Option Addr) (c : Nat) (L : List Stp) (w : World) (hl : L.length ≤ 200) (hh : ∀ p ∈ L, 1 ≤ p.1 ∧ p.1 ≤ 1100) (hx : RdS w a L) :
    Calls Try.prog 72 #[.slice a L.length c] w fun e w' => e = .returned (.int .i64 (H.len L)) ∧ Below w.heap.size w w' := by
  have HG := hid (gatheredStep_any a c L w hl hh hx)
  clear hh hx
  go_enter Try.func72, Try.ntmps72
  go_wp2_with fail
  refine HG.out.mono ?_
  rintro e w' ⟨rfl, hb⟩
  have HB := hid hb
  clear hb
  go_wp2
  go_ret
  exact ⟨rfl, HB.out⟩
end Go.Proofs.Ythlcnklbeolhpaa
