/- Package tuscheref09: the walk of Copies; large. -/
import Derived.Test.YthnklabdjaiplaaDoorMRef4
namespace Go.Proofs.YthnklabdjaiplaaDoor
open Go.RowKit

/-- Some customer of a coalition has mark q at place k. -/
def M.hasq (T : List (List Int)) (l : List Int) (k : Nat) (q : Nat) : Bool := l.any fun i => M.mk T i k == (q : Int)
/-- How many of the first marks a coalition has at place k. -/
def M.cnt (T : List (List Int)) (l : List Int) (k : Nat) : Nat → Nat
  | 0 => 0
  | q + 1 => M.cnt T l k q + (if M.hasq T l k q then 1 else 0)
theorem M.cnt_le (T : List (List Int)) (l : List Int) (k : Nat) : ∀ q, M.cnt T l k q ≤ q
  | 0 => Nat.le_refl _
  | q + 1 => by
    have := M.cnt_le T l k q
    unfold M.cnt
    split <;> omega
theorem M.hasq_iff {m : Int} {T : List (List Int)} {l : List Int} (h : M.Ok m T) (hl : ∀ i, i ∈ l → 0 ≤ i ∧ i < T.length) {k q : Nat} (hk : k < M.pl T) : M.hasq T l k q = (M.so T l k).testBit q := by
  rw [Bool.eq_iff_iff, M.so_bit]
  unfold M.hasq
  rw [List.any_eq_true]
  constructor
  · rintro ⟨i, hi, he⟩
    have he' : M.mk T i k = (q : Int) := by simpa using he
    exact ⟨hk, i, hi, by omega⟩
  · rintro ⟨_, i, hi, he⟩
    have h1 := hl i hi
    have h2 := h.rng i.toNat k (by omega) hk
    refine ⟨i, hi, ?_⟩
    have : M.mk T i k = (T.getD i.toNat []).getD k 0 := rfl
    rw [beq_iff_eq]
    omega
theorem M.cnt_pc {m : Int} {T : List (List Int)} {l : List Int} (h : M.Ok m T) (hl : ∀ i, i ∈ l → 0 ≤ i ∧ i < T.length) {k : Nat} (hk : k < M.pl T) : M.cnt T l k m.toNat = M.pc (M.so T l k) := by
  have h4 : ∀ q, m.toNat ≤ q → M.cnt T l k q = M.cnt T l k m.toNat := by
    intro q hq
    induction q with
    | zero => have : m.toNat = 0 := by omega
              rw [this]
    | succ q ih =>
      by_cases e : m.toNat = q + 1
      · rw [e]
      · have hn : ¬ M.hasq T l k q = true := by
          unfold M.hasq
          rw [List.any_eq_true]
          rintro ⟨i, hi, he⟩
          have he' : M.mk T i k = (q : Int) := by simpa using he
          have h1 := hl i hi
          have h2 := h.rng i.toNat k (by omega) hk
          have : M.mk T i k = (T.getD i.toNat []).getD k 0 := rfl
          omega
        rw [M.cnt, ih (by omega), if_neg hn, Nat.add_zero]
  have hm4 := h.m4
  rw [← h4 4 (by omega)]
  simp only [M.cnt, M.hasq_iff h hl hk]
  have hb : ∀ x q : Nat, (if x.testBit q = true then 1 else 0) = x / 2 ^ q % 2 := by
    intro x q
    rw [Nat.testBit_eq_decide_div_mod_eq]
    by_cases e : x / 2 ^ q % 2 = 1
    · simp [e]
    · have : x / 2 ^ q % 2 = 0 := by omega
      simp [this]
  simp only [hb]
  unfold M.pc
  simp

set_option maxHeartbeats 4000000 in
theorem refCopies_any (m : Int) (a : Option Addr) (c : Nat) (T : List (List Int)) (al : Option Addr) (cl : Nat) (l : List Int) (w : World) (hm : T.length ≤ maxLen) (hml : ∀ i, i < T.length → (T.getD i []).length ≤ maxLen) (hll : l.length ≤ maxLen) (hT : RdM w a T) (hl : RdI w al l) :
    Calls Tryd.prog 17 #[M.cv m a T.length c, .slice al l.length cl] w fun e w' => e = .returned (.tuple #[.int .i64 (M.cps m T l).1, .int .i64 (M.cps m T l).2]) ∧ Below w.heap.size w w' := by
  obtain ⟨W, hW, c0, c1, hB, hlt⟩ := M.newT w 28 (.int .i64 m) (.slice a T.length c)
  have HB := hid hB
  have HT := hid (hT.stays hB)
  have HL := hid (hl.stays hB)
  have HC := hid (refCheck_any m a c T W hm hml HT.out)
  unfold M.cv at *
  by_cases h0 : M.chk m T = 0
  · have HOK := hid (M.chk_zero.1 h0)
    have HR : Hid (M.cps m T l = if M.co T.length l = 0 then ((M.cpk T l (M.pl T) : Int), 0) else (0, M.co T.length l)) := hid (by unfold M.cps; rw [if_pos h0])
    rw [h0] at HC
    have HCO := hid (fun w' (hb : Below W.heap.size W w') => members_any m a c T.length al cl l w' (by have := HOK.out.n10; omega) hll (HL.out.stays hb))
    unfold M.cv at HCO
    clear hB hT hl h0 hml
    by_cases h1 : M.co T.length l = 0
    · have HCI := hid (M.co_zero.1 h1)
      have HR2 : Hid (M.cps m T l = ((M.cpk T l (M.pl T) : Int), 0)) := hid (by rw [HR.out, if_pos h1])
      rw [h1] at HCO
      rw [HR2.out]
      have HCP : Hid (∀ k, k < M.pl T → M.cpk T l (k + 1) = M.cpk T l k * M.cnt T l k m.toNat) := hid (fun k hk => by rw [M.cnt_pc HOK.out HCI.out.inn hk]; rfl)
      have hp1 := HOK.out.p1
      have hp8 := HOK.out.p8
      have hn1 := HOK.out.n1
      have hm2 := HOK.out.m2
      have hm4 := HOK.out.m4
      have hn10 := HOK.out.n10
      have hll' := hll
      unfold maxLen at hll'
      have HLE := hid (fun k => M.cpk_le T l k)
      have HCI' := hid HCI.out
      have HLEN := hid HOK.out.len
      obtain ⟨b, off, r, cr, rfl, hc0, -⟩ := M.row0 HT.out (by omega)
      have HC0 := hid hc0
      have hix : (0 : Int) < (T.length : Int) := by omega
      clear h1 HR hc0
      have HS0 : Hid (M.cpk T l 0 = 1) := hid rfl
      generalize M.cpk T l = q at *
      go_enter Tryd.func17, Tryd.ntmps17
      go_wp2_with fail
      rw [hW] at *
      go_wp2_with (refine HC.out.mono ?_; rintro e w7 ⟨rfl, hb7⟩; have q0 := cell_stays hb7 (Nat.le_refl _) c0; have q1 := cell_stays hb7 (Nat.le_refl _) c1; replace hb7 := hid hb7)
      refine (HCO.out w7 hb7.out).mono ?_
      rintro e V ⟨rfl, hb8⟩
      have r0 := cell_stays hb8 (Nat.le_refl _) q0
      have r1 := cell_stays hb8 (Nat.le_refl _) q1
      have HB8 := hid (hb7.out.trans (hb8.mono hb7.out.size))
      have s2 := cell_stays HB8.out (Nat.le_refl _) HC0.out
      have HTV := hid (HT.out.stays HB8.out)
      have HLV := hid (HL.out.stays HB8.out)
      have HF : Hid (Below w.heap.size w V) := hid (HB.out.trans (HB8.out.mono HB.out.size))
      clear hb8 q0 q1 c0 c1
      go_wp2
      go_loopw [7, 8] (fun p i wr => ∃ k : Nat, k ≤ M.pl T ∧ i = .int .i64 k ∧ p = .int .i64 (q k : Nat) ∧ ∃ z, wr = V.drewN z) (fun _ i _ => M.pl T - (intOf i).toNat)
      case atStart => exact ⟨0, Nat.zero_le _, rfl, by rw [HS0.out]; rfl, 0, rfl⟩
      case round =>
        obtain ⟨k, hk, rfl, rfl, z, rfl⟩ := hrel
        by_cases hlt2 : k < M.pl T
        · have hkp : (0 : Int) ≤ (k : Int) ∧ (k : Int) < (M.pl T : Int) := by omega
          have HM := hid (HCP.out k hlt2)
          have HQ := hid (HLE.out k)
          have HCS := hid (fun j => show M.cnt T l k (j + 1) = M.cnt T l k j + (if M.hasq T l k j then 1 else 0) from rfl)
          have HCL := hid (M.cnt_le T l k)
          have HC00 : Hid (M.cnt T l k 0 = 0) := hid rfl
          generalize M.cnt T l k = cn at *
          generalize q k = y at *
          go_wp2
          go_loopw [9, 10] (fun p i wr => ∃ j : Nat, j ≤ m.toNat ∧ i = .int .i64 j ∧ p = .int .i64 (cn j : Nat) ∧ ∃ z, wr = V.drewN z) (fun _ i _ => m.toNat - (intOf i).toNat)
          case atStart => exact ⟨0, Nat.zero_le _, rfl, by rw [HC00.out]; rfl, _, rfl⟩
          case round =>
            obtain ⟨j, hj, rfl, rfl, z, rfl⟩ := hrel
            have hcl := HCL.out j
            by_cases hjm : (j : Int) < m
            · have HS := hid (HCS.out j)
              go_wp2
              go_loopw [11, 12] (fun f i wr => ∃ x : Nat, x ≤ l.length ∧ i = .int .i64 x ∧ f = .bool ((l.take x).any fun i => M.mk T i k == (j : Int)) ∧ ∃ z, wr = V.drewN z) (fun _ i _ => l.length - (intOf i).toNat)
              case atStart => exact ⟨0, Nat.zero_le _, rfl, rfl, _, rfl⟩
              case round =>
                obtain ⟨x, hx, rfl, rfl, z, rfl⟩ := hrel
                by_cases hxl : x < l.length
                · obtain ⟨b4, o4, rfl, hy⟩ := M.num HLV.out hxl
                  have hjx : (0 : Int) ≤ (x : Int) ∧ (x : Int) < (l.length : Int) := by omega
                  have HAS := hid (M.any_take (p := fun i => M.mk T i k == (j : Int)) hxl)
                  have hin := HCI.out.rg x hxl
                  obtain ⟨b5, o5, r5, c5, he5, hz, hrow⟩ := M.row HTV.out (show (l.getD x 0).toNat < T.length by omega)
                  simp only [Option.some.injEq, Addr.mk.injEq, and_true] at he5
                  obtain ⟨rfl, rfl⟩ := he5
                  rw [HLEN.out _ (by omega)] at hz
                  obtain ⟨b6, o6, rfl, hm6⟩ := M.num hrow (show k < (T.getD (l.getD x 0).toNat []).length by rw [HLEN.out _ (by omega)]; omega)
                  have HMK : Hid (M.mk T (l.getD x 0) k = (T.getD (l.getD x 0).toNat []).getD k 0) := hid rfl
                  clear hrow
                  generalize l.getD x 0 = g at *
                  generalize (T.getD g.toNat []).getD k 0 = u at *
                  generalize (l.take x).any (fun i => M.mk T i k == (j : Int)) = fd at *
                  cases fd with
                  | true =>
                    have HR2 : Hid (((l.take (x + 1)).any fun i => M.mk T i k == (j : Int)) = true) := hid (by rw [HAS.out]; rfl)
                    go_wp2
                    go_quiet (fail)
                    go_wp2
                    go_roundw
                    case rel => exact ⟨x + 1, by omega, by go_num, by rw [HR2.out], _, rfl⟩
                    case measure => simp [intOf]; omega
                  | false =>
                    have HR2 : Hid (((l.take (x + 1)).any fun i => M.mk T i k == (j : Int)) = (u == (j : Int))) := hid (by rw [HAS.out, ← HMK.out]; rfl)
                    go_wp2
                    go_quiet (fail)
                    go_wp2
                    go_roundw
                    case rel => exact ⟨x + 1, by omega, by go_num, by rw [HR2.out], _, rfl⟩
                    case measure => simp [intOf]; omega
                · have hxe : x = l.length := by omega
                  subst hxe
                  rw [List.take_length]
                  unfold M.hasq at HS
                  generalize l.any (fun i => M.mk T i k == (j : Int)) = fd at *
                  cases fd with
                  | true =>
                    have HS2 : Hid (cn (j + 1) = cn j + 1) := hid (by rw [HS.out]; rfl)
                    go_wp2
                    go_roundw
                    case rel => exact ⟨j + 1, by omega, by go_num, by rw [HS2.out]; go_num, _, rfl⟩
                    case measure => simp [intOf]; omega
                  | false =>
                    have HS2 : Hid (cn (j + 1) = cn j) := hid (by rw [HS.out]; rfl)
                    go_wp2
                    go_roundw
                    case rel => exact ⟨j + 1, by omega, by go_num, by rw [HS2.out], _, rfl⟩
                    case measure => simp [intOf]; omega
            · have hje : j = m.toNat := by omega
              subst hje
              have hle := HQ.out
              have h4 : 4 ^ k ≤ 4 ^ 8 := Nat.pow_le_pow_right (by omega) (by omega)
              have hpr : y * cn m.toNat ≤ 4 ^ 8 * 4 := Nat.mul_le_mul (Nat.le_trans hle h4) (by omega)
              have hw : IntKind.i64.wrap ((y : Int) * (cn m.toNat : Int)) = ((y * cn m.toNat : Nat) : Int) := by
                rw [← Int.natCast_mul]
                exact IntWalk.i64_in _ (by have : (4 : Nat) ^ 8 * 4 = 262144 := by decide
                                           omega)
              clear hle h4 hpr
              go_wp2
              go_roundw
              case rel => exact ⟨k + 1, by omega, by go_num, by rw [HM.out, Int.natCast_mul], _, rfl⟩
              case measure => simp [intOf]; omega
        · have hke : k = M.pl T := by omega
          subst hke
          go_wp2
          go_ret2
          exact ⟨rfl, below_drewN HF.out _⟩
    · have HR2 : Hid (M.cps m T l = (0, M.co T.length l)) := hid (by rw [HR.out, if_neg h1])
      rw [HR2.out]
      have h1' : (M.co T.length l == 0) = false := beq_eq_false_iff_ne.2 h1
      have h1'' : (M.co T.length l != 0) = true := by simpa using h1
      generalize M.co T.length l = y at *
      clear h1 HR
      go_enter Tryd.func17, Tryd.ntmps17
      go_wp2_with fail
      rw [hW] at *
      go_wp2_with (refine HC.out.mono ?_; rintro e w7 ⟨rfl, hb7⟩; have q0 := cell_stays hb7 (Nat.le_refl _) c0; have q1 := cell_stays hb7 (Nat.le_refl _) c1; replace hb7 := hid hb7)
      refine (HCO.out w7 hb7.out).mono ?_
      rintro e w8 ⟨rfl, hb8⟩
      have HB8 := hid (hb7.out.trans (hb8.mono hb7.out.size))
      clear hb8
      go_wp2
      go_ret2
      exact ⟨rfl, HB.out.trans (HB8.out.mono HB.out.size)⟩
  · have HR : Hid (M.cps m T l = (0, M.chk m T)) := hid (by unfold M.cps; rw [if_neg h0])
    rw [HR.out]
    have h0' : (M.chk m T == 0) = false := beq_eq_false_iff_ne.2 h0
    have h0'' : (M.chk m T != 0) = true := by simpa using h0
    generalize M.chk m T = y at *
    clear hB hT hl h0 hml
    go_enter Tryd.func17, Tryd.ntmps17
    go_wp2_with fail
    rw [hW] at *
    go_wp2_with (refine HC.out.mono ?_; rintro e w7 ⟨rfl, hb7⟩; replace hb7 := hid hb7)
    go_ret2
    exact ⟨rfl, HB.out.trans (hb7.out.mono HB.out.size)⟩

/-- A code is much larger than it may be. -/
def M.lrg (T : List (List Int)) : Bool := decide (20 < T.length) || T.any fun r => decide (20 < r.length)
theorem M.lrg_false {T : List (List Int)} (h : M.lrg T = false) : T.length ≤ 20 ∧ ∀ i, i < T.length → (T.getD i []).length ≤ 20 := by
  unfold M.lrg at h
  rw [Bool.or_eq_false_iff, decide_eq_false_iff_not, List.any_eq_false] at h
  refine ⟨by omega, fun i hi => ?_⟩
  have := h.2 T[i] (List.getElem_mem _)
  rw [List.getD_eq_getElem?_getD, List.getElem?_eq_getElem hi]
  simpa using this
set_option maxHeartbeats 1000000 in
theorem large_any (m : Int) (a : Option Addr) (c : Nat) (T : List (List Int)) (w : World) (hm : T.length ≤ maxLen) (hT : RdM w a T) :
    Calls Tryd.prog 12 #[M.cv m a T.length c] w fun e w' => e = .returned (.bool (M.lrg T)) ∧ Below w.heap.size w w' := by
  unfold maxLen at hm
  obtain ⟨W, hW, c0, c1, hB, hlt⟩ := M.newT w 24 (.int .i64 m) (.slice a T.length c)
  have HT := hid (hT.stays hB)
  have HB := hid hB
  unfold M.cv
  obtain ⟨r, hr⟩ : ∃ r, M.lrg T = r := ⟨_, rfl⟩
  rw [hr]
  have HR := hid hr
  clear hB hT hr
  by_cases h1 : 20 < T.length
  · have HR2 : Hid (r = true) := hid (by rw [← HR.out]; unfold M.lrg; rw [decide_eq_true h1]; rfl)
    go_enter Tryd.func12, Tryd.ntmps12
    go_wp2
    rw [hW] at *
    go_ret
    exact ⟨ret_bool HR2.out.symm, HB.out⟩
  have HE : Hid (r = T.any fun r => decide (20 < r.length)) := hid (by rw [← HR.out]; unfold M.lrg; rw [decide_eq_false h1]; rfl)
  go_enter Tryd.func12, Tryd.ntmps12
  go_wp2
  rw [hW] at *
  go_loop [3] (fun i => ∃ k : Nat, k ≤ T.length ∧ i = .int .i64 k ∧ ∀ j, j < k → (T.getD j []).length ≤ 20) (fun i => T.length - (intOf i).toNat)
  case atStart => exact ⟨0, Nat.zero_le _, rfl, fun j h => absurd h (Nat.not_lt_zero _)⟩
  case round =>
    obtain ⟨k, hk, rfl, ho⟩ := hrel
    have HO := hid ho
    clear ho
    by_cases hlt2 : k < T.length
    · obtain ⟨b2, o2, r2, cr2, rfl, hck, -⟩ := M.row HT.out hlt2
      have hkx : (0 : Int) ≤ (k : Int) ∧ (k : Int) < (T.length : Int) := by omega
      have HX : Hid (∃ x, (T.getD k []).length = x) := hid ⟨_, rfl⟩
      obtain ⟨x, hxe⟩ := HX.out
      have HXE := hid hxe
      rw [hxe] at hck
      clear HX hxe
      by_cases h2 : 20 < x
      · have HR2 : Hid (r = true) := hid (by
          rw [HE.out, List.any_eq_true]
          refine ⟨T[k], List.getElem_mem _, ?_⟩
          have := HXE.out
          rw [List.getD_eq_getElem?_getD, List.getElem?_eq_getElem hlt2] at this
          simp only [Option.getD_some] at this
          rw [this]
          exact decide_eq_true h2)
        go_wp2
        go_ret
        exact ⟨ret_bool HR2.out.symm, HB.out⟩
      · go_wp2
        go_round
        case rel => exact ⟨k + 1, by omega, by go_num, fun j hj => by
          by_cases e : j = k
          · subst e; rw [HXE.out]; omega
          · exact HO.out j (by omega)⟩
        case measure => simp [intOf]; omega
    · have hke : k = T.length := by omega
      subst hke
      have HR2 : Hid (r = false) := hid (by
        rw [HE.out, List.any_eq_false]
        intro x hx
        obtain ⟨j, hj, rfl⟩ := List.getElem_of_mem hx
        have := HO.out j hj
        rw [List.getD_eq_getElem?_getD, List.getElem?_eq_getElem hj] at this
        simpa using this)
      go_wp2
      go_ret
      exact ⟨ret_bool HR2.out.symm, HB.out⟩
end Go.Proofs.YthnklabdjaiplaaDoor
