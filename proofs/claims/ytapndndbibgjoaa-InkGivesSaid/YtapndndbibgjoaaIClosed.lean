/- Package ink: the walks of grown, closed and setOf. -/
import Derived.Test.YtapndndbibgjoaaIGrow
namespace Go.Proofs.Ytapndndbibgjoaa
open Go.RowKit

theorem RdV.at {w : World} {a : Option Addr} {T : List (List Int)} (h : RdV w a (T.map K.ink)) {k : Nat} (hk : k < T.length) : ∃ b off, a = some ⟨b, off, none⟩ ∧ w.cell? ⟨b, off + k, none⟩ = some (K.ink T[k]) := by
  obtain ⟨b, off, h1, h2⟩ := h k (by simpa using hk)
  exact ⟨b, off, h1, by rw [h2]; simp⟩

set_option maxHeartbeats 2000000 in
set_option maxRecDepth 100000 in
theorem grown_any (n : Int) (s : Nat) (a : Option Addr) (c : Nat) (T : List (List Int)) (w : World) (hg : K.Good n T) (hs : s < 2 ^ n.toNat) (h0 : s.testBit 0 = true) (hT : RdV w a (T.map K.ink)) :
    Calls Try.prog 69 #[.int .u8 s, .slice a T.length c] w fun e w' => e = .returned (.int .u8 (K.grown T s : Nat)) ∧ Below w.heap.size w w' := by
  have HG := hid hg
  have HT := hid hT
  have HS := hid hs
  have H0 := hid h0
  have hf := hg.few
  have hn7 : n.toNat ≤ 7 := by have := hg.hi; omega
  have hn1 : 1 ≤ n.toNat := by have := hg.lo; omega
  clear hg hT h0
  go_enter Try.func69, Try.ntmps69
  go_wp2
  go_loopw [5, 11] (fun v i wr => ∃ k : Nat, k ≤ T.length ∧ i = .int .i64 k ∧ v = .int .u8 (K.grown (T.take k) s : Nat) ∧ Below w.heap.size w wr) (fun _ i _ => T.length - (intOf i).toNat)
  case atStart => exact ⟨0, Nat.zero_le _, rfl, rfl, Below.refl _ _⟩
  case round =>
    obtain ⟨k, hk, rfl, rfl, hb⟩ := hrel
    have HB := hid hb
    clear hb
    by_cases hlt : k < T.length
    · obtain ⟨b, off, rfl, hcx⟩ := (HT.out.stays HB.out).at hlt
      have hr := HG.out.row hlt
      have HP := hid (printed_any n.toNat s T[k] wr hr hn1 hn7 HS.out H0.out)
      have hst := K.grown_take_succ (s := s) hlt
      have l1 := K.lt_128 (K.grown_lt HG.out HS.out k (by omega)) hn7
      have l2 := K.lt_128 (K.addL_lt hr HS.out hn7) hn7
      have hor := or_u8 l1 l2
      rw [← hst] at hor
      obtain ⟨tt, vv, hq⟩ : ∃ tt vv, K.ink T[k] = .iface tt vv := by unfold K.ink; split <;> exact ⟨_, _, rfl⟩
      rw [hq] at HP hcx
      have hix : (0 : Int) ≤ (k : Int) ∧ (k : Int) < (T.length : Int) := by omega
      clear hst hr hq l1 l2
      generalize hz : K.grown (T.take (k + 1)) s = z at *
      have HZ := hid hz
      clear hz
      generalize K.grown (T.take k) s = x at *
      generalize K.addL T[k] s = y at *
      go_wp2_with fail
      refine HP.out.mono ?_
      rintro e w2 ⟨rfl, hb2⟩
      have HB2 := hid (HB.out.trans (hb2.mono HB.out.size))
      clear hb2 hcx HB HP
      go_wp2
      go_roundw
      case rel => exact ⟨k + 1, by omega, by go_num, by rw [HZ.out], HB2.out⟩
      case measure => simp [intOf]; omega
    · have hke : k = T.length := by omega
      subst hke
      rw [List.take_length]
      go_wp2
      go_ret
      exact ⟨rfl, HB.out⟩

set_option maxHeartbeats 1000000 in
set_option maxRecDepth 100000 in
theorem closed_any (n : Int) (s : Nat) (a : Option Addr) (c : Nat) (T : List (List Int)) (w : World) (hg : K.Good n T) (hs : s < 2 ^ n.toNat) (h0 : s.testBit 0 = true) (hT : RdV w a (T.map K.ink)) :
    Calls Try.prog 68 #[.int .u8 s, .slice a T.length c] w fun e w' => e = .returned (.bool (decide (K.grown T s = s))) ∧ Below w.heap.size w w' := by
  have HG := hid (grown_any n s a c T w hg hs h0 hT)
  clear hg hs h0 hT
  obtain ⟨b, hb⟩ : ∃ b, b = decide (K.grown T s = s) := ⟨_, rfl⟩
  rw [← hb]
  have hb2 : (((K.grown T s : Nat) : Int) == (s : Int)) = b := by
    rw [hb, Bool.eq_iff_iff]; simp; omega
  clear hb
  generalize K.grown T s = z at *
  go_enter Try.func68, Try.ntmps68
  go_wp2_with fail
  refine HG.out.mono ?_
  rintro e w2 ⟨rfl, hb⟩
  have HB := hid hb
  clear hb
  go_wp2
  go_ret
  exact ⟨rfl, HB.out⟩

/-- The set of a list of colours. -/
def K.setOf (l : List Int) : Nat := l.foldl (fun a x => a ||| 2 ^ x.toNat) 0
theorem K.setOf_succ {l : List Int} {k : Nat} (h : k < l.length) : K.setOf (l.take (k + 1)) = K.setOf (l.take k) ||| 2 ^ l[k].toNat := by
  unfold K.setOf
  rw [List.take_succ_eq_append_getElem h, List.foldl_append]
  rfl
theorem K.setOf_lt {n : Nat} : ∀ {l : List Int}, (∀ x ∈ l, 0 ≤ x ∧ x < n) → K.setOf l < 2 ^ n := fun {l} h => by
  have : ∀ (l : List Int) (a : Nat), (∀ x ∈ l, 0 ≤ x ∧ x < n) → a < 2 ^ n → l.foldl (fun a x => a ||| 2 ^ x.toNat) a < 2 ^ n := fun l => by
    induction l with
    | nil => intro a _ ha; exact ha
    | cons x l ih =>
      intro a h ha
      rw [List.foldl_cons]
      have := h x (by simp)
      exact ih _ (fun y hy => h y (by simp [hy])) (Nat.or_lt_two_pow ha (K.two_lt (by omega)))
  exact this l 0 h (Nat.two_pow_pos n)

set_option maxHeartbeats 1000000 in
set_option maxRecDepth 100000 in
theorem setOf_any (n : Nat) (h7 : n ≤ 7) (a : Option Addr) (c : Nat) (l : List Int) (w : World) (hm : l.length ≤ maxLen) (hl : ∀ x ∈ l, 0 ≤ x ∧ x < n) (hx : RdI w a l) :
    Calls Try.prog 73 #[.slice a l.length c] w fun e w' => e = .returned (.int .u8 (K.setOf l : Nat)) ∧ Below w.heap.size w w' := by
  unfold maxLen at hm
  have HX := hid hx
  have HL := hid hl
  clear hx hl
  go_enter Try.func73, Try.ntmps73
  go_wp2
  go_loopw [3, 8] (fun v i wr => ∃ k : Nat, k ≤ l.length ∧ i = .int .i64 k ∧ v = .int .u8 (K.setOf (l.take k) : Nat) ∧ Below w.heap.size w wr) (fun _ i _ => l.length - (intOf i).toNat)
  case atStart => exact ⟨0, Nat.zero_le _, rfl, rfl, Below.refl _ _⟩
  case round =>
    obtain ⟨k, hk, rfl, rfl, hb⟩ := hrel
    have HB := hid hb
    clear hb
    by_cases hlt : k < l.length
    · obtain ⟨b, off, rfl, hcx⟩ := (HX.out.stays HB.out) k hlt
      have hd := HL.out l[k] (List.getElem_mem hlt)
      have hst := K.setOf_succ hlt
      have l1 := K.lt_128 (K.setOf_lt (n := n) (fun x hx => HL.out x (List.mem_of_mem_take hx)) : K.setOf (l.take k) < 2 ^ n) h7
      generalize l[k] = x at *
      obtain ⟨m, rfl⟩ := Int.eq_ofNat_of_zero_le hd.1
      rw [Int.toNat_natCast] at hst
      have hm7 : m < 7 := by omega
      have HST := hid hst
      have hix : (0 : Int) ≤ (k : Int) ∧ (k : Int) < (l.length : Int) := by omega
      clear hst hd
      generalize K.setOf (l.take k) = acc at *
      have HW := hid (setWith_any acc m wr l1 hm7)
      go_wp2_with fail
      refine HW.out.mono ?_
      rintro e w2 ⟨rfl, hb2⟩
      have HB2 := hid (HB.out.trans (hb2.mono HB.out.size))
      clear hb2 hcx HB
      go_wp2
      go_roundw
      case rel => exact ⟨k + 1, by omega, by go_num, by rw [HST.out], HB2.out⟩
      case measure => simp [intOf]; omega
    · have hke : k = l.length := by omega
      subst hke
      rw [List.take_length]
      go_wp2
      go_ret
      exact ⟨rfl, HB.out⟩
end Go.Proofs.Ytapndndbibgjoaa
