/- The law's own list, numbers; what works() does between its calls. -/
import Derived.Test.YthaoacnaeafbeaaXTw3
import Derived.Test.YthaoacnaeafbeaaXBst
import Derived.Test.YthaoacnaeafbeaaXLo2
import Derived.Test.YthaoacnaeafbeaaXPlc
namespace Go.Proofs.Ythaoacnaeafbeaa
open Go.RowKit

theorem list_any (a : Option Addr) (n c : Nat) (w : World) : Calls Try.prog 43 #[.slice a n c] w fun e w' => e = .returned (.slice a n c) ∧ w = w' := by
  go_enter Try.func43, Try.ntmps43
  go_wp2
  go_ret
  exact ⟨rfl, rfl⟩
/-- A literal list. -/
theorem X.newL (w : World) (xs : List Int) : ∃ V, w.alloc (.cells (xs.map (Value.int .i64)).toArray 3) = V ∧ Below w.heap.size w V ∧ RdI V (some ⟨w.heap.size, 0, none⟩) xs := by
  refine ⟨_, rfl, (Below.refl _ _).alloc (Nat.le_refl _) _, fun k hk => ⟨_, 0, rfl, ?_⟩⟩
  rw [World.cell?_alloc_at _ _ _ _ rfl]
  simp [hk]
/-- Two pairs stored into new variables. -/
theorem X.put2 (w : World) (p r : Nat × Nat) : ∃ W4 W5, (w.alloc (.cells #[.int .i64 0, .int .i64 0] 24)).alloc (.cells #[.int .i64 0, .int .i64 0] 24) = W4 ∧
    (((W4.setCell ⟨w.heap.size, 0, none⟩ (.int .i64 (p.1 : Nat))).setCell ⟨w.heap.size, 1, none⟩ (.int .i64 (p.2 : Nat))).setCell ⟨w.heap.size + 1, 0, none⟩ (.int .i64 (r.1 : Nat))).setCell ⟨w.heap.size + 1, 1, none⟩ (.int .i64 (r.2 : Nat)) = W5 ∧
    Below w.heap.size w W5 ∧ X.Bx W5 w.heap.size p ∧ X.Bx W5 (w.heap.size + 1) r ∧
    W4.cell? ⟨w.heap.size, 0, none⟩ = some (.int .i64 0) ∧ W4.cell? ⟨w.heap.size, 1, none⟩ = some (.int .i64 0) ∧ W4.cell? ⟨w.heap.size + 1, 0, none⟩ = some (.int .i64 0) ∧ W4.cell? ⟨w.heap.size + 1, 1, none⟩ = some (.int .i64 0) ∧ (∀ o, W4.frozen? ⟨w.heap.size, o, none⟩ = false) ∧ (∀ o, W4.frozen? ⟨w.heap.size + 1, o, none⟩ = false) ∧ ¬ w.heap.size = w.heap.size + 1 ∧ ¬ w.heap.size + 1 = w.heap.size ∧ W5.heap.size = W4.heap.size := by
  obtain ⟨W4, hW, hT, hB, hsz⟩ := X.newTwo w
  have n1 : ¬ w.heap.size = w.heap.size + 1 := by omega
  have n2 : ¬ w.heap.size + 1 = w.heap.size := by omega
  refine ⟨W4, _, hW, rfl, ?_, ?_, ?_, hT.1.cell0, hT.1.cell1, hT.2.cell0, hT.2.cell1, hT.1.fz, hT.2.fz, n1, n2, by simp [World.setCell]⟩
  · exact (((hB.setCell (p := ⟨w.heap.size, 0, none⟩) (Nat.le_refl _) _).setCell (p := ⟨w.heap.size, 1, none⟩) (Nat.le_refl _) _).setCell (p := ⟨w.heap.size + 1, 0, none⟩) (Nat.le_succ _) _).setCell (p := ⟨w.heap.size + 1, 1, none⟩) (Nat.le_succ _) _
  · exact ((hT.1.set p).off n1).off n1
  · exact X.Bx.set ((hT.2.off n2).off n2) r

set_option maxHeartbeats 1000000 in
set_option maxRecDepth 100000 in
theorem numbers_q (a1 a2 : Option Addr) (c1 c2 : Nat) (l m : List Int) (w : World) (hl : l.length ≤ 1000) (hm : m.length ≤ 1000) (h1 : RdI w a1 l) (h2 : RdI w a2 m) :
    Calls Try.prog 22 #[.slice a1 l.length c1, .slice a2 m.length c2] w fun e w' => e = .returned (.bool (decide (l = m))) ∧ ∃ n, w' = w.drewN n := by
  have H1 := hid h1
  have H2 := hid h2
  clear h1 h2
  by_cases hlen : l.length = m.length
  · have HV : Hid (l = m ↔ ∀ k (h : k < l.length) (h' : k < m.length), l[k] = m[k]) := hid ⟨fun e k h h' => by subst e; rfl, fun h => List.ext_getElem hlen (fun k h1 h2 => h k h1 h2)⟩
    obtain ⟨d, hd⟩ : ∃ d, decide (l = m) = d := ⟨_, rfl⟩
    rw [hd]
    have HD := hid hd
    clear hd
    have HLM := hid hlen
    rw [← hlen]
    clear hlen
    go_enter Try.func22, Try.ntmps22
    go_wp2
    go_loopw [5] (fun i wr => ∃ k : Nat, k ≤ l.length ∧ i = .int .i64 k ∧ (∀ j (h : j < k) (h' : j < l.length) (h'' : j < m.length), l[j] = m[j]) ∧ ∃ q, wr = w.drewN q) (fun i _ => l.length - (intOf i).toNat)
    case atStart => exact ⟨0, Nat.zero_le _, rfl, fun j h => absurd h (Nat.not_lt_zero _), 0, rfl⟩
    case round =>
      obtain ⟨k, hk, rfl, ho, q, rfl⟩ := hrel
      have HO := hid ho
      clear ho
      by_cases hlt : k < l.length
      · have hlt2 : k < m.length := by have := HLM.out; omega
        obtain ⟨b1, o1, rfl, q1⟩ := H1.out k hlt
        obtain ⟨b2, o2, rfl, q2⟩ := H2.out k hlt2
        have hix : (0 : Int) ≤ (k : Int) ∧ (k : Int) < (l.length : Int) := by omega
        have HEX : Hid (∃ x y, l[k] = x ∧ m[k] = y) := hid ⟨_, _, rfl, rfl⟩
        obtain ⟨x, y, hx, hy⟩ := HEX.out
        rw [hx] at q1
        rw [hy] at q2
        have HX := hid hx
        have HY := hid hy
        clear hx hy HEX
        by_cases hxy : x = y
        · subst hxy
          have HO2 : Hid (∀ j (h : j < k + 1) (h' : j < l.length) (h'' : j < m.length), l[j] = m[j]) := hid (fun j h h' h'' => by
            by_cases e : j = k
            · subst e; rw [HX.out, HY.out]
            · exact HO.out j (by omega) h' h'')
          go_wp2
          go_quiet (fail)
          go_wp2
          go_roundw
          case rel => exact ⟨k + 1, by omega, by go_num, HO2.out, _, rfl⟩
          case measure => simp [intOf]; omega
        · have HDV : Hid (d = false) := hid (by
            rw [← HD.out, decide_eq_false_iff_not, HV.out]
            intro h
            have := h k hlt hlt2
            rw [HX.out, HY.out] at this
            exact hxy this)
          have hne : (x == y) = false := by simpa using hxy
          clear hxy
          go_wp2
          go_quiet (fail)
          go_wp2
          go_ret
          exact ⟨by rw [HDV.out]; rfl, _, World.drewN_drewN _ _ _⟩
      · have HDV : Hid (d = true) := hid (by
          rw [← HD.out, decide_eq_true_eq, HV.out]
          exact fun j h h' => HO.out j (by omega) h h')
        go_wp2
        go_ret
        exact ⟨by rw [HDV.out]; rfl, _, rfl⟩
  · have HDV : Hid (decide (l = m) = false) := hid (by rw [decide_eq_false_iff_not]; intro e; exact hlen (by rw [e]))
    have hne : ((l.length : Int) == (m.length : Int)) = false := by rw [beq_eq_false_iff_ne]; omega
    clear hlen
    go_enter Try.func22, Try.ntmps22
    go_wp2
    go_ret
    exact ⟨by rw [HDV.out]; rfl, 0, rfl⟩
end Go.Proofs.Ythaoacnaeafbeaa
