/- The law's own numbers, list, and works: the chapter's examples hold. -/
import Derived.Test.YtiodcgdjphmffaaBJoin
import Derived.Test.YtiodcgdjphmffaaBRoot
import Derived.Test.YtiodcgdjphmffaaBWid2
import Derived.Test.YtiodcgdjphmffaaBRings
namespace Go.Proofs.Ytiodcgdjphmffaa
open Go.RowKit

set_option maxHeartbeats 1000000 in
set_option maxRecDepth 100000 in
theorem numbers_q (a1 a2 : Option Addr) (c1 c2 : Nat) (l m : List Int) (w : World) (hl : l.length ≤ 1000) (hm : m.length ≤ 1000) (h1 : RdI w a1 l) (h2 : RdI w a2 m) :
    Calls Try.prog 22 #[.slice a1 l.length c1, .slice a2 m.length c2] w fun e w' => e = .returned (.bool (decide (l = m))) ∧ ∃ n, w' = w.drewN n := by
  have H1 := hid h1
  have H2 := hid h2
  clear h1 h2
  by_cases hlen : l.length = m.length
  · have HV : Hid (l = m ↔ ∀ k (h : k < l.length) (h' : k < m.length), l[k] = m[k]) := hid ⟨fun e k h h' => by subst e; rfl, fun h => List.ext_getElem hlen (fun k h1 h2 => h k h1 h2)⟩
    obtain ⟨d, hd⟩ : ∃ d, decide (l = m) = d := ⟨_, rfl⟩
    rw [hd]
    have HD := hid hd
    clear hd
    have HLM := hid hlen
    rw [← hlen]
    clear hlen
    go_enter Try.func22, Try.ntmps22
    go_wp2
    go_loopw [5] (fun i wr => ∃ k : Nat, k ≤ l.length ∧ i = .int .i64 k ∧ (∀ j (h : j < k) (h' : j < l.length) (h'' : j < m.length), l[j] = m[j]) ∧ ∃ q, wr = w.drewN q) (fun i _ => l.length - (intOf i).toNat)
    case atStart => exact ⟨0, Nat.zero_le _, rfl, fun j h => absurd h (Nat.not_lt_zero _), 0, rfl⟩
    case round =>
      obtain ⟨k, hk, rfl, ho, q, rfl⟩ := hrel
      have HO := hid ho
      clear ho
      by_cases hlt : k < l.length
      · have hlt2 : k < m.length := by have := HLM.out; omega
        obtain ⟨b1, o1, rfl, q1⟩ := H1.out k hlt
        obtain ⟨b2, o2, rfl, q2⟩ := H2.out k hlt2
        have hix : (0 : Int) ≤ (k : Int) ∧ (k : Int) < (l.length : Int) := by omega
        have HEX : Hid (∃ x y, l[k] = x ∧ m[k] = y) := hid ⟨_, _, rfl, rfl⟩
        obtain ⟨x, y, hx, hy⟩ := HEX.out
        rw [hx] at q1
        rw [hy] at q2
        have HX := hid hx
        have HY := hid hy
        clear hx hy HEX
        by_cases hxy : x = y
        · subst hxy
          have HO2 : Hid (∀ j (h : j < k + 1) (h' : j < l.length) (h'' : j < m.length), l[j] = m[j]) := hid (fun j h h' h'' => by
            by_cases e : j = k
            · subst e; rw [HX.out, HY.out]
            · exact HO.out j (by omega) h' h'')
          go_wp2
          go_quiet (fail)
          go_wp2
          go_roundw
          case rel => exact ⟨k + 1, by omega, by go_num, HO2.out, _, rfl⟩
          case measure => simp [intOf]; omega
        · have HDV : Hid (d = false) := hid (by
            rw [← HD.out, decide_eq_false_iff_not, HV.out]
            intro h
            have := h k hlt hlt2
            rw [HX.out, HY.out] at this
            exact hxy this)
          have hne : (x == y) = false := by simpa using hxy
          clear hxy
          go_wp2
          go_quiet (fail)
          go_wp2
          go_ret
          exact ⟨by rw [HDV.out]; rfl, _, World.drewN_drewN _ _ _⟩
      · have HDV : Hid (d = true) := hid (by
          rw [← HD.out, decide_eq_true_eq, HV.out]
          exact fun j h h' => HO.out j (by omega) h h')
        go_wp2
        go_ret
        exact ⟨by rw [HDV.out]; rfl, _, rfl⟩
  · have HDV : Hid (decide (l = m) = false) := hid (by rw [decide_eq_false_iff_not]; intro e; exact hlen (by rw [e]))
    have hne : ((l.length : Int) == (m.length : Int)) = false := by rw [beq_eq_false_iff_ne]; omega
    clear hlen
    go_enter Try.func22, Try.ntmps22
    go_wp2
    go_ret
    exact ⟨by rw [HDV.out]; rfl, 0, rfl⟩
theorem numbers_any (a1 a2 : Option Addr) (c1 c2 : Nat) (l m : List Int) (w : World) (hl : l.length ≤ 1000) (hm : m.length ≤ 1000) (h1 : RdI w a1 l) (h2 : RdI w a2 m) :
    Calls Try.prog 22 #[.slice a1 l.length c1, .slice a2 m.length c2] w fun e w' => e = .returned (.bool (decide (l = m))) ∧ Below w.heap.size w w' :=
  (numbers_q a1 a2 c1 c2 l m w hl hm h1 h2).mono fun _ _ ⟨he, n, hn⟩ => ⟨he, hn ▸ below_drewN (Below.refl _ _) n⟩
theorem list_any (a : Option Addr) (n c : Nat) (w : World) :
    Calls Try.prog 46 #[.slice a n c] w fun e w' => e = .returned (.slice a n c) ∧ w = w' := by
  go_enter Try.func46, Try.ntmps46
  go_wp2
  go_ret
  exact ⟨rfl, rfl⟩

def B.s (l : List UInt8) : ByteArray := ⟨l.toArray⟩
set_option maxHeartbeats 4000000 in
set_option maxRecDepth 100000 in
theorem works_any (w : World) (hm : MaxL w) :
    Calls Try.prog 15 #[] w fun e w' => e = .returned (.bool true) ∧ Below w.heap.size w w' := by
  have HM := hid hm
  have K1 := hid (fun w => periods_any ⟨#[97, 98, 97, 97, 98, 97, 98, 97, 97, 98, 97]⟩ w (by decide))
  rw [show B.periodsV ⟨#[97, 98, 97, 97, 98, 97, 98, 97, 97, 98, 97]⟩ = ([5, 8, 10, 11], 0) by kernel_rfl] at K1
  have K2 := hid (fun w => root_any ⟨#[97, 98, 97, 98]⟩ w (by decide))
  rw [show B.rootV ⟨#[97, 98, 97, 98]⟩ = (⟨#[97, 98]⟩, 2, 0) by kernel_rfl] at K2
  have K3 := hid (fun w => coversL_any ⟨#[97, 98, 97, 97, 98, 97, 97, 98, 97]⟩ w (by decide))
  rw [show B.coversV ⟨#[97, 98, 97, 97, 98, 97, 97, 98, 97]⟩ = ([3, 6, 9], 0) by kernel_rfl] at K3
  have K4 := hid (fun w => wide_any 3 5 6 w)
  rw [show B.wideV 3 5 6 = (⟨#[97, 98, 97, 97, 98, 97]⟩, 0) by kernel_rfl] at K4
  have K5 := hid (fun w => plain_any ⟨#[97, 98, 99, 97, 98]⟩ w (by decide))
  rw [show B.plainV ⟨#[97, 98, 99, 97, 98]⟩ = (⟨#[97, 98, 97, 97, 98]⟩, 0) by kernel_rfl] at K5
  have K6 := hid (fun w => first_any ⟨#[99, 97, 98]⟩ w (by decide))
  rw [show B.firstV ⟨#[99, 97, 98]⟩ = (⟨#[97, 98, 99]⟩, 0) by kernel_rfl] at K6
  have K7 := hid (fun w => same_any ⟨#[97, 97, 98]⟩ ⟨#[97, 98, 97]⟩ w (by decide) (by decide))
  rw [show B.sameV ⟨#[97, 97, 98]⟩ ⟨#[97, 98, 97]⟩ = (true, 0) by kernel_rfl] at K7
  have K8 := hid (fun w => rings_any 6 3 w)
  rw [show B.ringsV 6 3 = (130, 0) by kernel_rfl] at K8
  have K9 := hid (fun a w hm hr => join_any a 3 [⟨#[97, 98, 99, 97]⟩, ⟨#[99, 97, 98]⟩, ⟨#[98, 99, 100]⟩] w (by decide) (by decide) (by
    intro k h
    match k, h with
    | 0, _ => show 4 ≤ maxLen; decide
    | 1, _ => show 3 ≤ maxLen; decide
    | 2, _ => show 3 ≤ maxLen; decide) hm hr)
  rw [show B.joinV [⟨#[97, 98, 99, 97]⟩, ⟨#[99, 97, 98]⟩, ⟨#[98, 99, 100]⟩] = (⟨#[97, 98, 99, 97, 98, 99, 100]⟩, 0) by kernel_rfl] at K9
  have K10 := hid (fun w => check_any ⟨#[97, 66]⟩ w (by decide))
  rw [show B.chk ⟨#[97, 66]⟩ = 9 by kernel_rfl] at K10
  go_enter Try.func15, Try.ntmps15
  go_wp2_with fail
  refine (K1.out _).mono ?_
  rintro e w1 ⟨a1, c1, rfl, r1, b1⟩
  have HR1 := hid r1
  have HB1 := hid b1
  clear r1 b1
  go_wp2_with fail
  refine (K2.out _).mono ?_
  rintro e w2 ⟨rfl, b2⟩
  have HB2 := hid b2
  clear b2
  go_wp2_with fail
  refine (K3.out _).mono ?_
  rintro e w3 ⟨a3, c3, rfl, r3, b3⟩
  have HR3 := hid r3
  have HB3 := hid b3
  clear r3 b3
  go_wp2_with fail
  refine (K4.out _).mono ?_
  rintro e w4 ⟨rfl, b4⟩
  have HB4 := hid b4
  clear b4
  go_wp2_with fail
  refine (K5.out _).mono ?_
  rintro e w5 ⟨rfl, b5⟩
  have HB5 := hid b5
  clear b5
  go_wp2_with fail
  refine (K6.out _).mono ?_
  rintro e w6 ⟨rfl, b6⟩
  have HB6 := hid b6
  clear b6
  go_wp2_with fail
  refine (K7.out _).mono ?_
  rintro e w7 ⟨rfl, b7⟩
  have HB7 := hid b7
  clear b7
  go_wp2_with fail
  refine (K8.out _).mono ?_
  rintro e w8 ⟨rfl, b8⟩
  have H38 := hid (HB4.out.trans ((HB5.out.trans ((HB6.out.trans ((HB7.out.trans (b8.mono HB7.out.size)).mono HB6.out.size)).mono HB5.out.size)).mono HB4.out.size))
  have H18 := hid (HB2.out.trans ((HB3.out.trans (H38.out.mono HB3.out.size)).mono HB2.out.size))
  have H08 := hid (HB1.out.trans (H18.out.mono HB1.out.size))
  clear b8 HB2 HB3 HB4 HB5 HB6 HB7
  go_wp2_with fail
  have ha8 : Below w8.heap.size w8 (w8.alloc (.cells #[.string ⟨#[97, 98, 99, 97]⟩, .string ⟨#[99, 97, 98]⟩, .string ⟨#[98, 99, 100]⟩] 9)) := (Below.refl _ _).alloc (Nat.le_refl _) _
  refine (K9.out (some ⟨w8.heap.size, 0, none⟩) _ ((HM.out.stays H08.out).stays ha8) (fun k h => ⟨w8.heap.size, 0, rfl, by
    match k, h with
    | 0, _ => rw [World.cell?_alloc_at _ _ _ _ rfl]; rfl
    | 1, _ => rw [World.cell?_alloc_at _ _ _ _ rfl]; rfl
    | 2, _ => rw [World.cell?_alloc_at _ _ _ _ rfl]; rfl⟩)).mono ?_
  rintro e w9 ⟨rfl, b9⟩
  have A9 := hid (ha8.trans (b9.mono ha8.size))
  clear b9 ha8
  go_wp2_with fail
  refine (list_any _ _ _ _).mono ?_
  rintro e wx ⟨rfl, hwx⟩
  subst hwx
  have aa : Below w9.heap.size w9 (w9.alloc (.cells #[.int .i64 5, .int .i64 8, .int .i64 10, .int .i64 11] 3)) := (Below.refl _ _).alloc (Nat.le_refl _) _
  have H19 := hid (H18.out.trans ((A9.out.trans (aa.mono A9.out.size)).mono H18.out.size))
  have KN := hid (numbers_any a1 (some ⟨w9.heap.size, 0, none⟩) c1 4 [5, 8, 10, 11] [5, 8, 10, 11] (w9.alloc (.cells #[.int .i64 5, .int .i64 8, .int .i64 10, .int .i64 11] 3)) (by decide) (by decide) (HR1.out.stays H19.out) (fun k h => ⟨w9.heap.size, 0, rfl, by
    match k, h with
    | 0, _ => rw [World.cell?_alloc_at _ _ _ _ rfl]; rfl
    | 1, _ => rw [World.cell?_alloc_at _ _ _ _ rfl]; rfl
    | 2, _ => rw [World.cell?_alloc_at _ _ _ _ rfl]; rfl
    | 3, _ => rw [World.cell?_alloc_at _ _ _ _ rfl]; rfl⟩))
  rw [show decide (([5, 8, 10, 11] : List Int) = [5, 8, 10, 11]) = true by decide] at KN
  go_wp2_with fail
  refine KN.out.mono ?_
  rintro e w10 ⟨rfl, b10⟩
  have A10 := hid (aa.trans (b10.mono aa.size))
  clear b10 aa KN H19
  go_wp2_with fail
  refine (list_any _ _ _ _).mono ?_
  rintro e wx ⟨rfl, hwx⟩
  subst hwx
  have aa : Below w10.heap.size w10 (w10.alloc (.cells #[.int .i64 3, .int .i64 6, .int .i64 9] 3)) := (Below.refl _ _).alloc (Nat.le_refl _) _
  have H39 := hid (H38.out.trans ((A9.out.trans ((A10.out.trans (aa.mono A10.out.size)).mono A9.out.size)).mono H38.out.size))
  have KN := hid (numbers_any a3 (some ⟨w10.heap.size, 0, none⟩) c3 3 [3, 6, 9] [3, 6, 9] (w10.alloc (.cells #[.int .i64 3, .int .i64 6, .int .i64 9] 3)) (by decide) (by decide) (HR3.out.stays H39.out) (fun k h => ⟨w10.heap.size, 0, rfl, by
    match k, h with
    | 0, _ => rw [World.cell?_alloc_at _ _ _ _ rfl]; rfl
    | 1, _ => rw [World.cell?_alloc_at _ _ _ _ rfl]; rfl
    | 2, _ => rw [World.cell?_alloc_at _ _ _ _ rfl]; rfl⟩))
  rw [show decide (([3, 6, 9] : List Int) = [3, 6, 9]) = true by decide] at KN
  go_wp2_with fail
  refine KN.out.mono ?_
  rintro e w11 ⟨rfl, b11⟩
  have A11 := hid (aa.trans (b11.mono aa.size))
  clear b11 aa KN H39
  go_wp2_with fail
  refine (K10.out _).mono ?_
  rintro e w12 ⟨rfl, b12⟩
  have HB := hid (H08.out.trans ((A9.out.trans ((A10.out.trans ((A11.out.trans (b12.mono A11.out.size)).mono A10.out.size)).mono A9.out.size)).mono H08.out.size))
  clear b12
  go_wp2
  go_ret
  exact ⟨rfl, HB.out⟩
end Go.Proofs.Ytiodcgdjphmffaa
