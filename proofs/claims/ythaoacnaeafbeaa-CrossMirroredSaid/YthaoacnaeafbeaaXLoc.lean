/- Package cross: the walks of slices.Index, Contains, Equal at []int, Common, show, Locate. -/
import Derived.Test.YthaoacnaeafbeaaXSft
namespace Go.Proofs.Ythaoacnaeafbeaa
open Go.RowKit

/-- Where a number stands in a list, or -1. -/
def X.pos (l : List Int) (v : Int) : Int := if v ∈ l then (l.findIdx (· == v) : Nat) else -1

theorem X.pos_at {l : List Int} {v : Int} {k : Nat} (h : k < l.length) (h1 : l[k] = v) (h2 : ∀ j (hj : j < k), l[j]'(by omega) ≠ v) : X.pos l v = k := by
  unfold X.pos
  rw [if_pos (by rw [← h1]; exact List.getElem_mem h)]
  have : l.findIdx (· == v) = k := by
    rw [List.findIdx_eq h]
    exact ⟨by simpa using h1, fun j hj => by simpa using h2 j hj⟩
  rw [this]

theorem X.pos_none {l : List Int} {v : Int} (h : ∀ j (hj : j < l.length), l[j] ≠ v) : X.pos l v = -1 := by
  unfold X.pos
  rw [if_neg]
  intro hm
  obtain ⟨j, hj, he⟩ := List.getElem_of_mem hm
  exact h j hj he

theorem X.pos_mem (l : List Int) (v : Int) : (0 ≤ X.pos l v) ↔ v ∈ l := by
  unfold X.pos
  split
  · rename_i h; exact ⟨fun _ => h, fun _ => by omega⟩
  · rename_i h; exact ⟨fun k => by omega, fun k => absurd k h⟩

theorem X.pos_lt (l : List Int) (v : Int) : -1 ≤ X.pos l v ∧ X.pos l v < (l.length : Int) := by
  unfold X.pos
  split
  · rename_i h
    have := List.findIdx_lt_length_of_exists (xs := l) (p := (· == v)) ⟨v, h, by simp⟩
    omega
  · omega

set_option maxHeartbeats 1000000 in
theorem index_any (a : Option Addr) (c : Nat) (l : List Int) (v : Int) (w : World) (hm : l.length ≤ maxLen) (hx : RdI w a l) :
    Calls Try.prog 75 #[.slice a l.length c, .int .i64 v] w fun e w' => e = .returned (.int .i64 (X.pos l v)) ∧ w = w' := by
  unfold maxLen at hm
  have HAT := hid (fun k h h1 h2 => X.pos_at (l := l) (v := v) (k := k) h h1 h2)
  have HNO := hid (fun h => X.pos_none (l := l) (v := v) h)
  generalize X.pos l v = r at *
  go_enter Try.func75, Try.ntmps75
  go_wp2
  go_loop [8] (fun i => ∃ k : Nat, k ≤ l.length ∧ i = .int .i64 k ∧ ∀ j (hj : j < k) (hl : j < l.length), l[j] ≠ v) (fun i => l.length - (intOf i).toNat)
  case atStart => exact ⟨0, Nat.zero_le _, rfl, fun j hj => by omega⟩
  case round =>
    obtain ⟨k, hk, rfl, ho⟩ := hrel
    have HO := hid ho
    clear ho
    by_cases hlt : k < l.length
    · obtain ⟨b, off, rfl, hc⟩ := hx k hlt
      have HXV : Hid (∀ x, l[k] = x → x = v → r = k) := hid (fun x h1 h2 => HAT.out k hlt (h1.trans h2) (fun j hj => HO.out j hj (by omega)))
      have hx1 : ∃ x, l[k] = x := ⟨_, rfl⟩
      obtain ⟨x, hx1⟩ := hx1
      rw [hx1] at hc
      have HX1 := hid hx1
      clear hx1
      by_cases h1 : v = x
      · have HE := hid (HXV.out x HX1.out h1.symm)
        subst h1
        go_wp2
        go_ret
        exact ⟨ret_int HE.out.symm, rfl⟩
      · have t1 : (v == x) = false := by simpa using h1
        go_wp2
        go_round
        case rel => exact ⟨k + 1, by omega, by go_num, fun j hj hl => by
          by_cases e : j = k
          · subst e; rw [HX1.out]; exact fun e => h1 e.symm
          · exact HO.out j (by omega) hl⟩
        case measure => simp [intOf]; omega
    · have HE := hid (HNO.out (fun j hj => HO.out j (by omega) hj))
      have hke : k = l.length := by omega
      subst hke
      go_wp2
      go_ret
      exact ⟨ret_int HE.out.symm, rfl⟩

set_option maxHeartbeats 400000 in
theorem contains_any (a : Option Addr) (c : Nat) (l : List Int) (v : Int) (w : World) (hm : l.length ≤ maxLen) (hx : RdI w a l) :
    Calls Try.prog 54 #[.slice a l.length c, .int .i64 v] w fun e w' => e = .returned (.bool (decide (v ∈ l))) ∧ w = w' := by
  have HC := hid (index_any a c l v w hm hx)
  have HM := hid (X.pos_mem l v)
  generalize X.pos l v = r at *
  go_enter Try.func54, Try.ntmps54
  go_wp2_with fail
  refine HC.out.mono ?_
  rintro e w' ⟨rfl, rfl⟩
  go_wp2
  go_ret
  exact ⟨ret_bool (decide_eq_decide.2 HM.out), rfl⟩


set_option maxHeartbeats 1000000 in
theorem equalI_any (a1 a2 : Option Addr) (c1 c2 : Nat) (l m : List Int) (w : World) (hl : l.length ≤ maxLen) (hm : m.length ≤ maxLen) (h1 : RdI w a1 l) (h2 : RdI w a2 m) :
    Calls Try.prog 55 #[.slice a1 l.length c1, .slice a2 m.length c2] w fun e w' => e = .returned (.bool (decide (l = m))) ∧ Below w.heap.size w w' := by
  have H1 := hid h1
  have H2 := hid h2
  unfold maxLen at hl hm
  have HBW : Hid (∀ n, Below w.heap.size w (w.drewN n)) := hid (fun n => below_drewN (Below.refl _ _) n)
  clear h1 h2
  by_cases hlen : l.length = m.length
  · have HV : Hid (l = m ↔ ∀ k (h : k < l.length) (h' : k < m.length), l[k] = m[k]) := hid ⟨fun e k h h' => by subst e; rfl, fun h => List.ext_getElem hlen (fun k h1 h2 => h k h1 h2)⟩
    obtain ⟨d, hd⟩ : ∃ d, decide (l = m) = d := ⟨_, rfl⟩
    rw [hd]
    have HD := hid hd
    clear hd
    have HLM := hid hlen
    rw [← hlen]
    have hne : ((l.length : Int) != (l.length : Int)) = false := by simp
    clear hlen hm
    go_enter Try.func55, Try.ntmps55
    go_wp2
    go_loopw [13] (fun i wr => ∃ k : Nat, k ≤ l.length ∧ i = .int .i64 k ∧ (∀ j (h : j < k) (h' : j < l.length) (h'' : j < m.length), l[j] = m[j]) ∧ ∃ q, wr = w.drewN q) (fun i _ => l.length - (intOf i).toNat)
    case atStart => exact ⟨0, Nat.zero_le _, rfl, fun j h => absurd h (Nat.not_lt_zero _), 0, rfl⟩
    case round =>
      obtain ⟨k, hk, rfl, ho, q, rfl⟩ := hrel
      have HO := hid ho
      clear ho
      by_cases hlt : k < l.length
      · have hlt2 : k < m.length := by have := HLM.out; omega
        obtain ⟨b1, o1, rfl, q1⟩ := H1.out k hlt
        obtain ⟨b2, o2, rfl, q2⟩ := H2.out k hlt2
        have hix : (0 : Int) ≤ (k : Int) ∧ (k : Int) < (l.length : Int) := by omega
        have HEX : Hid (∃ x y, l[k] = x ∧ m[k] = y) := hid ⟨_, _, rfl, rfl⟩
        obtain ⟨x, y, hx, hy⟩ := HEX.out
        rw [hx] at q1
        rw [hy] at q2
        have HX := hid hx
        have HY := hid hy
        clear hx hy HEX
        by_cases hxy : x = y
        · subst hxy
          have hxx : (x != x) = false := by simp
          have HO2 : Hid (∀ j (h : j < k + 1) (h' : j < l.length) (h'' : j < m.length), l[j] = m[j]) := hid (fun j h h' h'' => by
            by_cases e : j = k
            · subst e; rw [HX.out, HY.out]
            · exact HO.out j (by omega) h' h'')
          go_wp2
          go_quiet (fail)
          go_wp2
          go_roundw
          case rel => exact ⟨k + 1, by omega, by go_num, HO2.out, _, rfl⟩
          case measure => simp [intOf]; omega
        · have HDV : Hid (d = false) := hid (by
            rw [← HD.out, decide_eq_false_iff_not, HV.out]
            intro h
            have := h k hlt hlt2
            rw [HX.out, HY.out] at this
            exact hxy this)
          have hxx : (x != y) = true := by simpa using hxy
          go_wp2
          go_quiet (fail)
          go_wp2
          go_ret
          exact ⟨ret_bool HDV.out.symm, below_drewN (HBW.out _) _⟩
      · have hke : k = l.length := by omega
        subst hke
        have HDV : Hid (d = true) := hid (by
          rw [← HD.out, decide_eq_true_eq, HV.out]
          exact fun j h h' => HO.out j h h h')
        go_wp2
        go_ret
        exact ⟨ret_bool HDV.out.symm, HBW.out _⟩
  · have HD : Hid (decide (l = m) = false) := hid (by
      rw [decide_eq_false_iff_not]
      intro e
      exact hlen (by rw [e]))
    have hne : ((l.length : Int) != (m.length : Int)) = true := by simp; omega
    rw [HD.out]
    go_enter Try.func55, Try.ntmps55
    go_wp2
    go_ret
    exact ⟨rfl, HBW.out 0⟩

/-- How many of the first k crosses fall on others. -/
def X.com (l : List Int) (s : Int) (k : Nat) : Nat := (List.range k).countP fun i => decide (l.getD i 0 + s ∈ l)
theorem X.com_succ (l : List Int) (s : Int) (k : Nat) : X.com l s (k + 1) = X.com l s k + if l.getD k 0 + s ∈ l then 1 else 0 := by
  unfold X.com
  rw [List.range_succ, List.countP_append, List.countP_singleton]
  by_cases h : l.getD k 0 + s ∈ l
  · rw [if_pos h, if_pos (by simpa using h)]
  · rw [if_neg h, if_neg (by simpa using h)]
theorem X.com_le (l : List Int) (s : Int) (k : Nat) : X.com l s k ≤ k := by
  unfold X.com
  have := List.countP_le_length (p := fun i => decide (l.getD i 0 + s ∈ l)) (l := List.range k)
  simpa using this
def X.comE (l : List Int) (s : Int) : Int := if X.chk l = 0 then (if X.wi s (-60) 60 = true then 0 else 4) else X.chk l
def X.comV (l : List Int) (s : Int) : Int := if X.comE l s = 0 then X.com l s l.length else 0

set_option maxHeartbeats 2000000 in
theorem common_any (a : Option Addr) (c : Nat) (l : List Int) (s : Int) (w : World) (hm : l.length ≤ maxLen) (hl : RdI w a l) :
    Calls Try.prog 25 #[.slice a l.length c, .int .i64 s] w fun e w' => e = .returned (.tuple #[.int .i64 (X.comV l s), .int .i64 (X.comE l s)]) ∧ w' = w := by
  have HC := hid (check_any a c l w hm hl)
  have HW := hid (within_any s (-60) 60 w)
  have HCN := hid (fun v => contains_any a c l v w hm hl)
  unfold X.comV X.comE
  by_cases h0 : X.chk l = 0
  · have hok := X.chk_zero.1 h0
    rw [if_pos h0]
    rw [h0] at HC
    cases hw : X.wi s (-60) 60 with
    | false =>
      rw [hw] at HW
      clear hw hl
      rw [if_neg (show ¬ false = true by simp), if_neg (by omega)]
      go_enter Try.func25, Try.ntmps25
      go_wp2_with fail
      refine HC.out.mono ?_
      rintro e w1 ⟨rfl, rfl⟩
      go_wp2_with fail
      refine HW.out.mono ?_
      rintro e w2 ⟨rfl, rfl⟩
      go_wp2
      go_ret2
      exact ⟨rfl, rfl⟩
    | true =>
      have hs := X.wi_true.1 hw
      rw [hw] at HW
      have h8 := hok.eight
      have HL := hid hl
      have HOK := hid hok
      have HST := hid (X.com_succ l s)
      have HCL := hid (X.com_le l s)
      have HC0 : Hid (X.com l s 0 = 0) := hid rfl
      clear hw hl hok
      rw [if_pos (show true = true from rfl), if_pos rfl]
      generalize X.com l s = F at *
      go_enter Try.func25, Try.ntmps25
      go_wp2_with fail
      refine HC.out.mono ?_
      rintro e w1 ⟨rfl, rfl⟩
      go_wp2_with fail
      refine HW.out.mono ?_
      rintro e w2 ⟨rfl, rfl⟩
      go_wp2_with fail
      go_loop [7, 20] (fun n i => ∃ k : Nat, k ≤ l.length ∧ i = .int .i64 k ∧ n = .int .i64 (F k : Nat)) (fun _ i => l.length - (intOf i).toNat)
      case atStart => exact ⟨0, Nat.zero_le _, rfl, by rw [HC0.out]; rfl⟩
      case round =>
        obtain ⟨k, hk, rfl, rfl⟩ := hrel
        by_cases hlt : k < l.length
        · obtain ⟨b, o, rfl, hc⟩ := X.num HL.out hlt
          have hx0 := HOK.out.up.lo k hlt
          have hx1 := HOK.out.up.hi k hlt
          have hkk : (0 : Int) ≤ (k : Int) ∧ (k : Int) < (l.length : Int) := by omega
          have HST2 := hid (HST.out k)
          have hcl := HCL.out k
          generalize l.getD k 0 = x at *
          have hwr : IntKind.i64.wrap (x + s) = x + s := IntWalk.i64_in _ (by omega)
          have HCX := hid (HCN.out (x + s))
          generalize F k = m at *
          by_cases hin : x + s ∈ l
          · rw [decide_eq_true hin] at HCX
            have HS2 : Hid (F (k + 1) = m + 1) := hid (by rw [HST2.out, if_pos hin])
            clear hin
            go_wp2_with fail
            refine HCX.out.mono ?_
            rintro e w3 ⟨rfl, rfl⟩
            go_wp2
            go_round
            case rel => exact ⟨k + 1, by omega, by go_num, by rw [HS2.out]; go_num⟩
            case measure => simp [intOf]; omega
          · rw [decide_eq_false hin] at HCX
            have HS2 : Hid (F (k + 1) = m) := hid (by rw [HST2.out, if_neg hin, Nat.add_zero])
            clear hin
            go_wp2_with fail
            refine HCX.out.mono ?_
            rintro e w3 ⟨rfl, rfl⟩
            go_wp2
            go_round
            case rel => exact ⟨k + 1, by omega, by go_num, by rw [HS2.out]⟩
            case measure => simp [intOf]; omega
        · have hke : k = l.length := by omega
          subst hke
          go_wp2
          go_ret2
          exact ⟨rfl, rfl⟩
  · rw [if_neg h0, if_neg h0]
    have hne : (X.chk l != 0) = true := by rw [bne_iff_ne]; exact h0
    generalize X.chk l = z at *
    clear hl h0
    go_enter Try.func25, Try.ntmps25
    go_wp2_with fail
    refine HC.out.mono ?_
    rintro e w1 ⟨rfl, rfl⟩
    go_wp2
    go_ret2
    exact ⟨rfl, rfl⟩
end Go.Proofs.Ythaoacnaeafbeaa
