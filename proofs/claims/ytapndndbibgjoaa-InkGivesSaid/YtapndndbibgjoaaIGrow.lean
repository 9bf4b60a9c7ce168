/- Package ink: the walks of over, printed, grown, closed and setOf. -/
import Derived.Test.YtapndndbibgjoaaIAdd
import Derived.Test.YtapndndbibgjoaaIInks
import Derived.Test.YtapndndbibgjoaaISet
namespace Go.Proofs.Ytapndndbibgjoaa
open Go.RowKit

theorem heap_one (w : World) (o : Obj) : (w.alloc o).heap[w.heap.size]? = some o := by show (w.heap.push _)[w.heap.size]? = _; exact Array.getElem?_push_size
theorem bv_of (n a : Nat) : (BitVec.ofInt n (a : Int)).toNat = a % 2 ^ n := by
  rw [BitVec.toNat_ofInt]; omega

theorem or_u8 {a b : Nat} (ha : a < 128) (hb : b < 128) : bits .or .u8 (a : Int) (b : Int) = ((a ||| b : Nat) : Int) := by
  have h := Nat.or_lt_two_pow (n := 7) ha hb
  have e : bits .or .u8 (a : Int) (b : Int) = IntKind.u8.wrap ((BitVec.ofInt 8 (a : Int) ||| BitVec.ofInt 8 (b : Int)).toNat : Int) := rfl
  rw [e, BitVec.toNat_or, bv_of, bv_of, Nat.mod_eq_of_lt (show a < 2 ^ 8 by omega), Nat.mod_eq_of_lt (show b < 2 ^ 8 by omega)]
  rw [IntKind.wrap_u8]; omega

theorem or_i64 {a b : Nat} (ha : a < 128) (hb : b < 128) : bits .or .i64 (a : Int) (b : Int) = ((a ||| b : Nat) : Int) := by
  have h := Nat.or_lt_two_pow (n := 7) ha hb
  have e : bits .or .i64 (a : Int) (b : Int) = IntKind.i64.wrap ((BitVec.ofInt 64 (a : Int) ||| BitVec.ofInt 64 (b : Int)).toNat : Int) := rfl
  rw [e, BitVec.toNat_or, bv_of, bv_of, Nat.mod_eq_of_lt (show a < 2 ^ 64 by omega), Nat.mod_eq_of_lt (show b < 2 ^ 64 by omega)]
  exact IntWalk.i64_in _ (by omega)

set_option maxHeartbeats 1000000 in
set_option maxRecDepth 100000 in
theorem over_any (X : Array Value) (x : Int) (c : Nat) (w : World) (h7 : X.size = 7) (hc : c < 7) (hx : X[c]? = some (.int .i64 x)) :
    Calls Try.prog 93 #[.agg X, .int .i64 c] w fun e w' => e = .returned (.int .i64 x) ∧ Below w.heap.size w w' := by
  have hcell : (w.alloc (.cells X 130)).cell? ⟨w.heap.size, c, none⟩ = some (.int .i64 x) := by rw [World.cell?_alloc_at _ _ _ _ rfl]; exact hx
  have HB := hid ((Below.refl w.heap.size w).alloc (Nat.le_refl _) (.cells X 130))
  have hci : (0 : Int) ≤ (c : Int) ∧ (c : Int) < 7 := by omega
  clear hx h7
  go_enter Try.func93, Try.ntmps93
  go_wp2
  go_ret
  exact ⟨rfl, HB.out⟩

theorem K.list_cols (s : Nat) : K.list s = (K.cols s).map fun i : Nat => (i : Int) := rfl
theorem K.cols_lt {s n c : Nat} (hs : s < 2 ^ n) (h : c ∈ K.cols s) : c < n ∧ c < 7 := by
  obtain ⟨h7, h2⟩ := K.cols_mem.1 h
  refine ⟨?_, h7⟩
  rcases Nat.lt_or_ge c n with h3 | h3
  · exact h3
  · rw [K.testBit_high hs h3] at h2; cases h2
theorem K.cols_len (s : Nat) : (K.cols s).length ≤ 7 := by
  unfold K.cols
  have := List.length_filter_le (s.testBit ·) (List.range 7)
  simpa using this

/-- Up to the j-th colour. -/
def K.addP (r : List Int) (s j : Nat) : Nat := ((K.cols s).take j).foldl (fun a c => a ||| 2 ^ (r.getD c 0).toNat) s
theorem K.addP_succ {r : List Int} {s j m : Nat} (h : j < (K.cols s).length) (hm : r.getD (K.cols s)[j] 0 = (m : Int)) : K.addP r s (j + 1) = K.addP r s j ||| 2 ^ m := by
  unfold K.addP
  rw [List.take_succ_eq_append_getElem h, List.foldl_append, List.foldl_cons, List.foldl_nil, hm, Int.toNat_natCast]
theorem K.addP_all (r : List Int) (s : Nat) : K.addP r s (K.cols s).length = K.addL r s := by unfold K.addP K.addL; rw [List.take_length]

theorem opq_all {r : List Int} (h : K.opq r = true) : ∀ x ∈ r, x = r.getD 0 0 := fun x hx => by
  unfold K.opq at h
  have h' : r.any (fun x => x != r.getD 0 0) = false := by simpa using h
  rw [List.any_eq_false] at h'
  simpa using h' x hx

theorem assert_of {x : Value} {s t : TypeId} {l : List Ev.AV} {vs : List Value} (h : Ev.typeAssertA Try.prog (.sc x) t true = some (.tup l)) (hr : Ev.toVs l = some vs) (w : World) :
    (Instr.typeAssert x s t true).run Try.prog w = .ok (.tuple vs.toArray) w := by
  obtain ⟨y, h1, h2⟩ := Ev.typeAssertA_sound (ρ := fun _ => none) (s := s) (w := w) (Ev.RelV.sc x) h
  have h3 : (Ev.AV.tup l).toV = some (.tuple vs.toArray) := by simp only [Ev.AV.toV, hr]
  rw [h1, Ev.RelV.toV _ _ _ h2 h3]

theorem assert_oo (v : Value) (w : World) : (Instr.typeAssert (.iface 128 v) 88 128 true).run Try.prog w = .ok (.tuple #[v, .bool true]) w :=
  assert_of (l := [.sc v, .sc (.bool true)]) (vs := [v, .bool true]) (by kernel_rfl) rfl w
theorem assert_ot (v : Value) (w : World) : (Instr.typeAssert (.iface 130 v) 88 128 true).run Try.prog w = .ok (.tuple #[.int .i64 0, .bool false]) w :=
  assert_of (l := [.sc (.int .i64 0), .sc (.bool false)]) (vs := [.int .i64 0, .bool false]) (by kernel_rfl) rfl w
theorem assert_tt (v : Value) (w : World) : (Instr.typeAssert (.iface 130 v) 88 130 true).run Try.prog w = .ok (.tuple #[v, .bool true]) w :=
  assert_of (l := [.sc v, .sc (.bool true)]) (vs := [v, .bool true]) (by kernel_rfl) rfl w

set_option maxHeartbeats 2000000 in
set_option maxRecDepth 100000 in
theorem printed_any (n s : Nat) (r : List Int) (w : World) (hr : K.Row n r) (h1 : 1 ≤ n) (h7 : n ≤ 7) (hs : s < 2 ^ n) (h0 : s.testBit 0 = true) :
    Calls Try.prog 84 #[.int .u8 s, K.ink r] w fun e w' => e = .returned (.int .u8 (K.addL r s : Nat)) ∧ Below w.heap.size w w' := by
  have hs7 := K.lt_128 hs h7
  by_cases ho : K.opq r = true
  · have hk : K.ink r = .iface 128 (.int .i64 (r.getD 0 0)) := by unfold K.ink; rw [if_pos ho]
    obtain ⟨m, hm, hm2⟩ := hr.at (c := 0) h1
    have ha := K.addL_opq hs hr.1 (opq_all ho) h0 h7
    rw [hm2] at hk ha
    rw [Int.toNat_natCast] at ha
    rw [hk, ha]
    have HW := hid (setWith_any s m w hs7 (by omega))
    have TA := fun v w => assert_oo v w
    clear hk ha hr hs h0 ho hm2
    go_enter Try.func84, Try.ntmps84
    go_wp2_with fail
    refine HW.out.mono ?_
    rintro e w2 ⟨rfl, hb⟩
    have HB := hid hb
    clear hb
    go_wp2
    go_ret
    exact ⟨rfl, HB.out⟩
  · have hk : K.ink r = .iface 130 (.agg ((K.tc r).map (Value.int .i64)).toArray) := by unfold K.ink; rw [if_neg ho]
    obtain ⟨X, hX⟩ : ∃ X, X = ((K.tc r).map (Value.int .i64)).toArray := ⟨_, rfl⟩
    rw [← hX] at hk
    have HX7 : Hid (X.size = 7) := hid (by rw [hX]; simp [K.tc_length (show r.length ≤ 7 by rw [hr.1]; exact h7)])
    have HXC : Hid (∀ c, c < n → ∃ m : Nat, m < n ∧ r.getD c 0 = (m : Int) ∧ X[c]? = some (.int .i64 (m : Int))) := hid (fun c hc => by
      obtain ⟨m, hm, hm2⟩ := hr.at hc
      have hcl : c < r.length := by rw [hr.1]; exact hc
      refine ⟨m, hm, hm2, ?_⟩
      rw [hX, ← hm2]
      unfold K.tc
      have : (r ++ List.replicate (7 - r.length) 0)[c]? = some r[c] := by rw [List.getElem?_append_left hcl, List.getElem?_eq_getElem hcl]
      simp only [List.getElem?_toArray, List.getElem?_map, this, List.getD, List.getElem?_eq_getElem hcl, Option.getD_some]
      rfl)
    have HX1 : Hid ((X.all fun x => x.oneCell') = true) := hid (by rw [hX]; simp [Value.oneCell'])
    rw [hk]
    clear hk hX ho h0
    have HL := hid (fun W => setList_any s W hs7)
    have TA := fun v w => assert_ot v w
    have TB := fun v w => assert_tt v w
    have hg0 := heap_one w (.cells #[.int .i64 0, .int .i64 0, .int .i64 0, .int .i64 0, .int .i64 0, .int .i64 0, .int .i64 0] 130)
    go_enter Try.func84, Try.ntmps84
    go_wp2_with (refine wpList_store_row rfl 130 _ _ rfl w.heap.size _ rfl rfl 130 _ hg0 ?q1 ?q2 ?q3 ?_)
    case q1 => rw [HX7.out]; kernel_rfl
    case q2 => exact HX7.out.symm
    case q3 => exact HX1.out
    have HG1 := hid (setRow_heap (w.alloc (.cells #[.int .i64 0, .int .i64 0, .int .i64 0, .int .i64 0, .int .i64 0, .int .i64 0, .int .i64 0] 130)) w.heap.size _ X _ (0, 0) hg0)
    have HB1 := hid (below_setRow ((Below.refl w.heap.size w).alloc (Nat.le_refl _) (.cells #[.int .i64 0, .int .i64 0, .int .i64 0, .int .i64 0, .int .i64 0, .int .i64 0, .int .i64 0] 130)) (Nat.le_refl w.heap.size) X)
    have HLT : Hid (w.heap.size < ((w.alloc (.cells #[.int .i64 0, .int .i64 0, .int .i64 0, .int .i64 0, .int .i64 0, .int .i64 0, .int .i64 0] 130)).setRow w.heap.size X).heap.size) := hid (by simp [World.setRow])
    clear hg0
    generalize (w.alloc (.cells #[.int .i64 0, .int .i64 0, .int .i64 0, .int .i64 0, .int .i64 0, .int .i64 0, .int .i64 0] 130)).setRow w.heap.size X = w1 at *
    go_wp2_with fail
    refine (HL.out _).mono ?_
    rintro e w3 ⟨a, c, rfl, hc, hrd, hb⟩
    have hll : (K.list s).length = (K.cols s).length := by rw [K.list_cols, List.length_map]
    rw [hll] at hc ⊢
    have HRD := hid hrd
    have HB3 := hid (HB1.out.trans (hb.mono HB1.out.size))
    have HG3 := hid ((hb.block w.heap.size HLT.out).trans HG1.out)
    have HLT3 := hid (Nat.lt_of_lt_of_le HLT.out hb.size)
    have hcl := K.cols_len s
    clear hll hb hrd HL HG1
    go_wp2_with fail
    go_loopw [5, 24] (fun v i wr => ∃ k : Nat, k ≤ (K.cols s).length ∧ i = .int .i64 k ∧ v = .int .u8 (K.addP r s k : Nat) ∧ K.addP r s k < 2 ^ n ∧ Below w3.heap.size w3 wr) (fun _ i _ => (K.cols s).length - (intOf i).toNat)
    case atStart => exact ⟨0, Nat.zero_le _, rfl, rfl, hs, Below.refl _ _⟩
    case round =>
      obtain ⟨k, hk, rfl, rfl, hlt2, hb⟩ := hrel
      have HB := hid hb
      clear hb
      by_cases hlt : k < (K.cols s).length
      · obtain ⟨b, off, rfl, hcx⟩ := (HRD.out.stays HB.out) k (by rw [K.list_cols, List.length_map]; exact hlt)
        obtain ⟨q1, q2⟩ := K.cols_lt hs (List.getElem_mem hlt)
        obtain ⟨m, m1, m2, m3⟩ := HXC.out _ q1
        have hel : (K.list s)[k]'(by rw [K.list_cols, List.length_map]; exact hlt) = (((K.cols s)[k] : Nat) : Int) := by simp [K.list_cols]
        rw [hel] at hcx
        have hst := K.addP_succ hlt m2
        have hn2 : K.addP r s k ||| 2 ^ m < 2 ^ n := Nat.or_lt_two_pow hlt2 (K.two_lt m1)
        rw [← hst] at hn2
        have hv7 := K.lt_128 hlt2 h7
        have HN2 := hid hn2
        have HS := hid hst
        have HG := hid ((HB.out.block w.heap.size HLT3.out).trans HG3.out)
        clear hst hn2 hel
        generalize K.addP r s k = acc at *
        generalize (K.cols s)[k] = col at *
        have HO := hid (fun W => over_any X m col W HX7.out q2 m3)
        have HW := hid (fun W => setWith_any acc m W hv7 (by omega))
        have hg4 := HG.out
        have hix : (0 : Int) ≤ (k : Int) ∧ (k : Int) < ((K.cols s).length : Int) := by omega
        clear m2 m3 q1 hlt2 HG
        go_wp2_with (refine wpList_load_row rfl 130 _ rfl w.heap.size rfl 130 _ (0, 0) _ hg4 Try.underlying130 rfl ?l1 ?_)
        case l1 => rw [HX7.out]; kernel_rfl
        refine (HO.out _).mono ?_
        rintro e w4 ⟨rfl, hb4⟩
        have HB4 := hid (HB.out.trans (hb4.mono HB.out.size))
        clear hb4 hg4 hcx HB
        go_wp2_with fail
        refine (HW.out _).mono ?_
        rintro e w5 ⟨rfl, hb5⟩
        have HB5 := hid (HB4.out.trans (hb5.mono HB4.out.size))
        clear hb5 HB4
        go_wp2
        go_roundw
        case rel => exact ⟨k + 1, by omega, by go_num, by rw [HS.out], HN2.out, HB5.out⟩
        case measure => simp [intOf]; omega
      · have hke : k = (K.cols s).length := by omega
        subst hke
        rw [K.addP_all] at *
        have HBZ := hid (HB3.out.trans (HB.out.mono HB3.out.size))
        clear HB
        go_wp2
        go_ret
        exact ⟨rfl, HBZ.out⟩
end Go.Proofs.Ytapndndbibgjoaa
