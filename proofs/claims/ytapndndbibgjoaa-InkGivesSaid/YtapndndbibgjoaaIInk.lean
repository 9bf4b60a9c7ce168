/- Package ink: the walks of inkOf and inksOf: what an ink is. -/
import Derived.Test.YtapndndbibgjoaaIRChk
import Derived.Laws.CopyOwn
import Derived.Lib.SliceRun
namespace Go.Proofs.Ytapndndbibgjoaa
open Go.RowKit

/-- All colours become one. -/
def K.opq (r : List Int) : Bool := !r.any (fun x => x != r.getD 0 0)
/-- The cells of a transparent ink. -/
def K.tc (r : List Int) : List Int := r ++ List.replicate (7 - r.length) 0
/-- An ink, as a value. -/
def K.ink (r : List Int) : Value := if K.opq r = true then .iface 128 (.int .i64 (r.getD 0 0)) else .iface 130 (.agg ((K.tc r).map (Value.int .i64)).toArray)

theorem K.tc_length {r : List Int} (h : r.length ≤ 7) : (K.tc r).length = 7 := by unfold K.tc; simp; omega

set_option maxHeartbeats 400000 in
theorem differs_any (x f : Int) (q : Addr) (w : World) (hq : w.cell? q = some (.int .i64 f)) (hs : q.spot = none) :
    Calls Try.prog 95 #[.int .i64 x, .pointer (some q)] w fun e w' => e = .returned (.bool (x != f)) ∧ w' = w := by
  obtain ⟨b, o, s⟩ := q
  simp only at hs
  subst hs
  go_enter Try.func95, Try.ntmps95
  go_wp2
  go_ret
  exact ⟨rfl, rfl⟩

set_option maxHeartbeats 2000000 in
set_option maxRecDepth 100000 in
theorem indexFunc_any (a : Option Addr) (c : Nat) (r : List Int) (f : Int) (b o : Nat) (w : World) (hm : r.length ≤ maxLen) (hx : RdI w a r) (hq : w.cell? ⟨b, o, none⟩ = some (.int .i64 f)) :
    Calls Try.prog 107 #[.slice a r.length c, .func (.func 95) #[] #[.pointer (some ⟨b, o, none⟩)]] w
      fun e w' => ∃ i : Int, e = .returned (.int .i64 i) ∧ decide (0 ≤ i) = r.any (fun x => x != f) ∧ w' = w := by
  unfold maxLen at hm
  have HX := hid hx
  have HD := hid (fun x => differs_any x f ⟨b, o, none⟩ w hq rfl)
  clear hx hq
  go_enter Try.func107, Try.ntmps107
  go_wp2
  go_loop [8] (fun i => ∃ k : Nat, k ≤ r.length ∧ i = .int .i64 k ∧ r.any (fun x => x != f) = (r.drop k).any (fun x => x != f)) (fun i => r.length - (intOf i).toNat)
  case atStart => exact ⟨0, Nat.zero_le _, rfl, rfl⟩
  case round =>
    obtain ⟨k, hk, rfl, hany⟩ := hrel
    have HA := hid hany
    clear hany
    by_cases hlt : k < r.length
    · obtain ⟨bb, ob, rfl, hcx⟩ := HX.out k hlt
      have HS := hid (K.any_drop (p := fun x => x != f) hlt)
      have hix : (0 : Int) ≤ (k : Int) ∧ (k : Int) < (r.length : Int) := by omega
      generalize r[k] = x at *
      obtain ⟨v, hv⟩ : ∃ v, v = (x != f) := ⟨_, rfl⟩
      have HDX := hid (HD.out x)
      rw [← hv] at HS HDX
      clear hv
      cases v with
      | true =>
        have HR : Hid (r.any (fun x => x != f) = true) := hid (by rw [HA.out, HS.out]; rfl)
        go_wp2_with fail
        refine HDX.out.mono ?_
        rintro e w2 ⟨rfl, rfl⟩
        go_wp2
        go_ret
        exact ⟨k, rfl, by rw [HR.out]; simp, rfl⟩
      | false =>
        have HN : Hid (r.any (fun x => x != f) = (r.drop (k + 1)).any (fun x => x != f)) := hid (by rw [HA.out, HS.out]; rfl)
        go_wp2_with fail
        refine HDX.out.mono ?_
        rintro e w2 ⟨rfl, rfl⟩
        go_wp2
        go_round
        case rel => exact ⟨k + 1, by omega, by go_num, HN.out⟩
        case measure => simp [intOf]; omega
    · have hke : k = r.length := by omega
      subst hke
      have HR : Hid (r.any (fun x => x != f) = false) := hid (by rw [HA.out, List.drop_length]; rfl)
      go_wp2
      go_ret
      exact ⟨-1, rfl, by rw [HR.out]; decide, rfl⟩

set_option maxHeartbeats 1000000 in
set_option maxRecDepth 100000 in
theorem containsFunc_any (a : Option Addr) (c : Nat) (r : List Int) (f : Int) (b o : Nat) (w : World) (hm : r.length ≤ maxLen) (hx : RdI w a r) (hq : w.cell? ⟨b, o, none⟩ = some (.int .i64 f)) :
    Calls Try.prog 94 #[.slice a r.length c, .func (.func 95) #[] #[.pointer (some ⟨b, o, none⟩)]] w
      fun e w' => e = .returned (.bool (r.any (fun x => x != f))) ∧ w' = w := by
  have HI := hid (indexFunc_any a c r f b o w hm hx hq)
  generalize r.any (fun x => x != f) = v at *
  clear hx hq
  go_enter Try.func94, Try.ntmps94
  go_wp2_with fail
  refine HI.out.mono ?_
  rintro e w2 ⟨i, rfl, hi, rfl⟩
  by_cases h : 0 ≤ i
  · rw [decide_eq_true h] at hi
    subst hi
    go_wp2
    go_ret
    exact ⟨rfl, rfl⟩
  · rw [decide_eq_false h] at hi
    subst hi
    go_wp2
    go_ret
    exact ⟨ret_bool (by simpa using h), rfl⟩

set_option maxRecDepth 100000 in
/-- An array of seven numbers, sliced. -/
theorem sliceAll7 (w : World) (g : Nat) :
    (Instr.sliceAt 130 (.pointer (some ⟨g, 0, none⟩)) none none none).run Try.prog w = .ok (.slice (some ⟨g, 0, none⟩) 7 7) w := by
  have ha : Try.prog.arrayLen 130 = 7 := by kernel_rfl
  have he : Try.prog.elem 130 = 3 := by kernel_rfl
  have hu : Try.prog.underlying 130 = some (.array (Try.prog.arrayLen 130) (Try.prog.elem 130)) := by rw [ha, he]; exact Try.underlying130
  obtain ⟨i0, hi, hz0, hz1, hz2⟩ := info_parts (show (Try.prog.info? 3).map (fun i => (i.zero, i.size, i.bytes)) = some (some (.int .i64 0), 1, 8) by kernel_rfl)
  simp [Instr.sliceAt, underlying, Try.underlying130, sizeOf, typeInfo, hi, hz1, Instr.sureAddr, Instr.sliceBounds, Addr.add]

theorem K.tc_row (r : List Int) (h : r.length ≤ 7) : (#[.int .i64 0, .int .i64 0, .int .i64 0, .int .i64 0, .int .i64 0, .int .i64 0, .int .i64 0] : Array Value).toList.take 0 ++ (r.map (Value.int .i64) ++ (#[.int .i64 0, .int .i64 0, .int .i64 0, .int .i64 0, .int .i64 0, .int .i64 0, .int .i64 0] : Array Value).toList.drop (0 + (r.map (Value.int .i64)).length)) = (K.tc r).map (Value.int .i64) := by
  have e : (#[.int .i64 0, .int .i64 0, .int .i64 0, .int .i64 0, .int .i64 0, .int .i64 0, .int .i64 0] : Array Value).toList = List.replicate 7 (Value.int .i64 0) := rfl
  rw [e, List.drop_replicate]
  unfold K.tc
  simp

set_option maxHeartbeats 2000000 in
set_option maxRecDepth 100000 in
theorem inkOf_any (a : Option Addr) (c : Nat) (r : List Int) (w : World) (h1 : 1 ≤ r.length) (h7 : r.length ≤ 7) (hx : RdI w a r) :
    Calls Try.prog 87 #[.slice a r.length c] w fun e w' => e = .returned (K.ink r) ∧ Below w.heap.size w w' := by
  obtain ⟨b, off, rfl, hc⟩ := hx 0 (by omega)
  have hg0 : r.getD 0 0 = r[0] := by simp [List.getD, List.getElem?_eq_getElem (show 0 < r.length by omega)]
  rw [Nat.add_zero] at hc
  have HX := hid hx
  clear hx
  have HK : Hid (K.ink r = if (!r.any (fun x => x != r[0])) = true then .iface 128 (.int .i64 r[0]) else .iface 130 (.agg ((K.tc r).map (Value.int .i64)).toArray)) := hid (by
    unfold K.ink K.opq; rw [hg0])
  clear hg0
  generalize r[0] = f at *
  have HB := hid ((Below.refl w.heap.size w).alloc (Nat.le_refl _) (.cells #[.int .i64 f] 3))
  have HC := hid (fun W hx hq => containsFunc_any (some ⟨b, off, none⟩) c r f w.heap.size 0 W (by unfold maxLen; omega) hx hq)
  obtain ⟨v, hv⟩ : ∃ v, v = r.any (fun x => x != f) := ⟨_, rfl⟩
  rw [← hv] at HK HC
  have hq1 : (w.alloc (.cells #[.int .i64 f] 3)).cell? ⟨w.heap.size, 0, none⟩ = some (.int .i64 f) := by rw [World.cell?_alloc_at _ _ _ _ rfl]; rfl
  have HX1 := hid (HX.out.stays HB.out)
  have HQ1 := hid hq1
  have HSL := fun w g => sliceAll7 w g
  clear hv
  go_enter Try.func87, Try.ntmps87
  go_wp2_with fail
  generalize w.alloc (.cells #[.int .i64 f] 3) = w1 at *
  refine (HC.out _ HX1.out HQ1.out).mono ?_
  rintro e w2 ⟨rfl, rfl⟩
  cases v with
  | false =>
    have HR : Hid (K.ink r = .iface 128 (.int .i64 f)) := hid (by rw [HK.out]; rfl)
    go_wp2
    go_ret
    exact ⟨by rw [HR.out]; rfl, HB.out⟩
  | true =>
    have HR : Hid (K.ink r = .iface 130 (.agg ((K.tc r).map (Value.int .i64)).toArray)) := hid (by rw [HK.out]; rfl)
    have hg1 : (w2.alloc (.cells #[.int .i64 0, .int .i64 0, .int .i64 0, .int .i64 0, .int .i64 0, .int .i64 0, .int .i64 0] 130)).heap[w2.heap.size]? = some (.cells #[.int .i64 0, .int .i64 0, .int .i64 0, .int .i64 0, .int .i64 0, .int .i64 0, .int .i64 0] 130 (0, 0)) := by show (w2.heap.push _)[w2.heap.size]? = _; exact Array.getElem?_push_size
    have hrow := K.tc_row r h7
    have HB2 := hid (HB.out.alloc HB.out.size (.cells #[.int .i64 0, .int .i64 0, .int .i64 0, .int .i64 0, .int .i64 0, .int .i64 0, .int .i64 0] 130))
    have HX2 := hid (HX1.out.stays ((Below.refl _ _).alloc (Nat.le_refl _) (.cells #[.int .i64 0, .int .i64 0, .int .i64 0, .int .i64 0, .int .i64 0, .int .i64 0, .int .i64 0] 130)))
    have HG := hid hg1
    have HGT := hid HB.out.size
    clear hq1 hg1 hc
    have hcp := run_copy_row (P := Try.prog) (w2.alloc (.cells #[.int .i64 0, .int .i64 0, .int .i64 0, .int .i64 0, .int .i64 0, .int .i64 0, .int .i64 0] 130)) 25 25 3 3 w2.heap.size 0 7 7 ⟨b, off, none⟩ r.length c _ _ (r.map (Value.int .i64)) Try.underlying25 (by kernel_rfl) HG.out (by rw [List.length_map]; exact (Nat.min_eq_left h7).symm)
      (fun j v hj => by
        have hjn : j < r.length := by
          have := (List.getElem?_eq_some_iff.1 hj).1
          simpa using this
        obtain ⟨b', off', he, hcell⟩ := HX2.out j hjn
        simp only [Option.some.injEq, Addr.mk.injEq, and_true] at he
        obtain ⟨rfl, rfl⟩ := he
        rw [Addr.add_lit, hcell]
        simpa [hjn] using hj) (by simp; omega) (fun v hv => by obtain ⟨x, _, rfl⟩ := List.mem_map.1 hv; rfl)
    rw [List.append_assoc, hrow] at hcp
    have hg3 := setRow_heap (w2.alloc (.cells #[.int .i64 0, .int .i64 0, .int .i64 0, .int .i64 0, .int .i64 0, .int .i64 0, .int .i64 0] 130)) w2.heap.size _ ((K.tc r).map (Value.int .i64)).toArray _ (0, 0) HG.out
    have HB3 := hid (below_setRow HB2.out HGT.out ((K.tc r).map (Value.int .i64)).toArray)
    obtain ⟨w3, hw3⟩ : ∃ w3, w3 = ((w2.alloc (.cells #[.int .i64 0, .int .i64 0, .int .i64 0, .int .i64 0, .int .i64 0, .int .i64 0, .int .i64 0] 130))).setRow w2.heap.size ((K.tc r).map (Value.int .i64)).toArray := ⟨_, rfl⟩
    have hX : ((K.tc r).map (Value.int .i64)).toArray.size = 7 := by simp [K.tc_length h7]
    rw [← hw3] at hcp hg3 HB3
    clear hw3 hrow HX2 HG HB2
    generalize ((K.tc r).map (Value.int .i64)).toArray = X at *
    go_wp2_with (refine wpList_load_row rfl 130 _ rfl w2.heap.size rfl 130 _ (0, 0) _ hg3 Try.underlying130 rfl ?l1 ?_)
    case l1 => rw [hX]; kernel_rfl
    go_ret
    exact ⟨by rw [HR.out]; rfl, HB3.out⟩
end Go.Proofs.Ytapndndbibgjoaa
