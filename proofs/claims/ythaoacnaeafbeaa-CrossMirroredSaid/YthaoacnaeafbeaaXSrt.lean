/- Package tuscheref11: the walks of measured, sorted, Distances, Missing. -/
import Derived.Test.YthaoacnaeafbeaaXSft
import Derived.Test.YthaoacnaeafbeaaXRef
import Derived.BigRegion
namespace Go.Proofs.Ythaoacnaeafbeaa
open Go.RowKit

theorem X.has_iff {l : List Int} {d : Nat} : X.has (X.dis l) (X.prs l) d = true ↔ ∃ i k, i < k ∧ k < l.length ∧ X.dis l (i, k) = d := by
  unfold X.has
  rw [List.any_eq_true]
  constructor
  · rintro ⟨⟨i, k⟩, hp, he⟩
    have := X.mem_from.1 hp
    have h4 := this.2.2.2
    unfold X.up at h4
    exact ⟨i, k, by simpa using h4, this.2.2.1, by simpa using he⟩
  · rintro ⟨i, k, h1, h2, h3⟩
    exact ⟨(i, k), X.mem_from.2 ⟨by omega, by dsimp only; omega, h2, by unfold X.up; simpa using h1⟩, by simpa using h3⟩

set_option maxHeartbeats 4000000 in
set_option maxRecDepth 100000 in
theorem measured_any (a : Option Addr) (c : Nat) (l : List Int) (d : Nat) (w : World) (hl : RdI w a l) (hok : X.Ok l) :
    Calls Try.prog 73 #[.slice a l.length c, .int .i64 d] w fun e w' => e = .returned (.bool (X.has (X.dis l) (X.prs l) d)) ∧ ∃ q p, w' = (w.drewN q).drewN p := by
  have h2 := hok.two
  have h8 := hok.eight
  obtain ⟨b, o, rfl, _⟩ := X.num hl (show 0 < l.length by omega)
  have HL := hid hl
  have HOK := hid hok
  have HI := hid (X.has_iff (l := l) (d := d))
  generalize X.has (X.dis l) (X.prs l) d = r at *
  have HDD : Hid (∀ i k, i < k → k < l.length → l.getD k 0 - l.getD i 0 = (X.dis l (i, k) : Int)) := hid (fun i k h1 h2 => by
    unfold X.dis; have := HOK.out.rng h1 h2; dsimp only; omega)
  generalize X.dis l = D at *
  clear hl hok
  go_enter Try.func73, Try.ntmps73
  go_wp2_with fail
  go_loopw [5] (fun s wr => ∃ i : Nat, i ≤ l.length ∧ s = .int .i64 i ∧ (∀ j k, j < i → j < k → k < l.length → D (j, k) ≠ d) ∧ ∃ q, wr = w.drewN q) (fun s _ => l.length - (intOf s).toNat)
  case atStart => exact ⟨0, Nat.zero_le _, rfl, fun j k h => absurd h (Nat.not_lt_zero _), 0, rfl⟩
  case round => as_aux_lemma =>
    obtain ⟨i, hi, rfl, hn, q, rfl⟩ := hrel
    have HN := hid hn
    clear hn
    by_cases hlt : i < l.length
    · go_wp2_with fail
      go_loopw [6] (fun s wr => ∃ k : Nat, i + 1 ≤ k ∧ k ≤ l.length ∧ s = .int .i64 k ∧ (∀ j, i < j → j < k → D (i, j) ≠ d) ∧ ∃ q, wr = w.drewN q) (fun s _ => l.length - (intOf s).toNat)
      case atStart => exact ⟨i + 1, Nat.le_refl _, by omega, by go_num, fun j h1 h2 => absurd h1 (by omega), q, rfl⟩
      case round => as_aux_lemma =>
        obtain ⟨k, hk1, hk, rfl, hf, q, rfl⟩ := hrel
        have HF := hid hf
        clear hf
        by_cases hkl : k < l.length
        · have HCE : Hid (∀ j, j < l.length → w.cell? ⟨b, o + j, none⟩ = some (.int .i64 (l.getD j 0))) := hid (fun j hj => by
            obtain ⟨b', o', he, hc⟩ := X.num HL.out hj
            simp only [Option.some.injEq, Addr.mk.injEq, and_true] at he
            obtain ⟨rfl, rfl⟩ := he
            exact hc)
          have y0 := HCE.out i hlt
          have y1 := HCE.out k hkl
          have hdd := HDD.out i k (by omega) hkl
          have hrg := HOK.out.rng (show i < k by omega) hkl
          have hii : (0 : Int) ≤ (i : Int) ∧ (i : Int) < (l.length : Int) := by omega
          have hkk : (0 : Int) ≤ (k : Int) ∧ (k : Int) < (l.length : Int) := by omega
          have hwr : IntKind.i64.wrap (l.getD k 0 - l.getD i 0) = l.getD k 0 - l.getD i 0 := IntWalk.i64_in _ (by omega)
          generalize l.getD k 0 = y at *
          generalize l.getD i 0 = x at *
          by_cases hd : D (i, k) = d
          · have HR : Hid (r = true) := hid (HI.out.2 ⟨i, k, by omega, hkl, hd⟩)
            have heq : (y - x == (d : Int)) = true := by simp; omega
            have heq2 : (d : Int) = y - x := by omega
            clear HCE hd hdd
            go_wp2
            go_quiet (fail)
            go_wp2
            go_ret
            exact ⟨ret_bool HR.out.symm, _, _, rfl⟩
          · have heq : (y - x == (d : Int)) = false := by simp; omega
            have HF2 : Hid (∀ j, i < j → j < k + 1 → D (i, j) ≠ d) := hid (fun j h1 h2 => by
              by_cases e : j = k
              · rw [e]; exact hd
              · exact HF.out j h1 (by omega))
            clear HCE hd hdd
            go_wp2
            go_quiet (fail)
            go_wp2
            go_roundw
            case rel => exact ⟨k + 1, by omega, by omega, by go_num, HF2.out, _, rfl⟩
            case measure => simp [intOf]; omega
        · have hke : k = l.length := by omega
          subst hke
          have HN2 : Hid (∀ j k, j < i + 1 → j < k → k < l.length → D (j, k) ≠ d) := hid (fun j k h1 h2 h3 => by
            by_cases e : j = i
            · rw [e] at h2 ⊢; exact HF.out k h2 h3
            · exact HN.out j k (by omega) h2 h3)
          go_wp2
          go_roundw
          case rel => exact ⟨i + 1, by omega, by go_num, HN2.out, _, rfl⟩
          case measure => simp [intOf]; omega
    · have hie : i = l.length := by omega
      subst hie
      have HR : Hid (r = false) := hid (by
        rw [Bool.eq_false_iff]
        intro h
        obtain ⟨i, k, h1, h2, h3⟩ := HI.out.1 h
        exact HN.out i k (by omega) h1 h2 h3)
      go_wp2
      go_ret
      exact ⟨ret_bool HR.out.symm, q, 0, rfl⟩

set_option maxHeartbeats 4000000 in
set_option maxRecDepth 100000 in
theorem sorted_any (a : Option Addr) (c : Nat) (l : List Int) (b : Bool) (w : World) (hl : RdI w a l) (hok : X.Ok l) :
    Calls Try.prog 50 #[.slice a l.length c, .bool b] w fun e w' => ∃ x cx, e = .returned (.slice x (X.sf l b (X.lng l)).length cx) ∧ RdI w' x (X.sf l b (X.lng l)) ∧ Below w.heap.size w w' := by
  have h2 := hok.two
  have h8 := hok.eight
  obtain ⟨bb, o, rfl, c0⟩ := X.num hl (show 0 < l.length by omega)
  obtain ⟨b', o', he, c1⟩ := X.num hl (show l.length - 1 < l.length by omega)
  simp only [Option.some.injEq, Addr.mk.injEq, and_true] at he
  obtain ⟨rfl, rfl⟩ := he
  rw [Nat.add_zero] at c0
  obtain ⟨i0, hi, hz0, hz1, hz2⟩ := info_parts (show (Try.prog.info? 3).map (fun i => (i.zero, i.size, i.bytes)) = some (some (.int .i64 0), 1, 8) by kernel_rfl)
  have HRG := hok.rng (show 0 < l.length - 1 by omega) (by omega)
  have HME := hid (fun d W (h : Below w.heap.size w W) => measured_any (some ⟨bb, o, none⟩) c l d W (hl.stays h) hok)
  have HLN : Hid (l.getD (l.length - 1) 0 - l.getD 0 0 = (X.lng l : Int) ∧ X.lng l ≤ 60) := hid (by unfold X.lng; omega)
  have HC0 := hid (fun W (h : Below w.heap.size w W) => cell_stays h (Nat.le_refl _) c0)
  have HC1 := hid (fun W (h : Below w.heap.size w W) => cell_stays h (Nat.le_refl _) c1)
  have HSU := hid (fun k => X.sf_succ l b k)
  have HSL := hid (fun k => X.sf_len l b k)
  have HS0 : Hid (X.sf l b 0 = []) := hid rfl
  generalize X.sf l b = F at *
  obtain ⟨L, hL⟩ : ∃ L, X.lng l = L := ⟨_, rfl⟩
  rw [hL] at HLN ⊢
  have hlo := hok.up.lo 0 (by omega)
  have hk2 : ((l.length - 1 : Nat) : Int) = (l.length : Int) - 1 := by omega
  have hk3 : (0 : Int) ≤ (l.length : Int) - 1 ∧ (l.length : Int) - 1 < (l.length : Int) := by omega
  have hk4 : ((l.length : Int) - 1).toNat = l.length - 1 := by omega
  have hk6 : (0 : Int) < (l.length : Int) := by omega
  have hk5 : (0 : Int) ≤ 0 ∧ (0 : Int) < (l.length : Int) := by omega
  generalize l.getD (l.length - 1) 0 = y at *
  generalize l.getD 0 0 = x at *
  generalize X.dis l = D at *
  generalize X.prs l = S at *
  have hyx : y - x = (L : Int) := HLN.out.1
  have hL60 := HLN.out.2
  have hwr : IntKind.i64.wrap (y - x) = y - x := IntWalk.i64_in _ (by omega)
  have HYX := hid hyx
  clear hl hok HRG hL c0 c1 hyx
  go_enter Try.func50, Try.ntmps50
  go_wp2_with fail
  go_loopw [5, 6] (fun v s wr => ∃ k : Nat, k ≤ L ∧ s = .int .i64 ((k : Int) + 1) ∧ RowI wr w.heap.size v (F k) ∧ Below w.heap.size w wr) (fun _ s _ => L + 1 - (intOf s).toNat)
  case atStart => exact ⟨0, Nat.zero_le _, by go_num, by rw [HS0.out]; exact RowI.nil _ _, Below.refl _ _⟩
  case round => as_aux_lemma =>
    obtain ⟨k, hk, rfl, hown, hb⟩ := hrel
    have HOW := hid hown
    have HBW := hid hb
    have z0 := HC0.out wr hb
    have z1 := HC1.out wr hb
    clear hown hb
    by_cases hlt : k < L
    · have hle : decide ((k : Int) + 1 ≤ y - x) = true := by rw [HYX.out]; simp; omega
      have HHW := hid (fun q => HME.out (k + 1) (wr.drewN q) (below_drewN HBW.out q))
      have HSK := hid (HSU.out k)
      have hfl := HSL.out k
      rw [show (((k + 1 : Nat)) : Int) = (k : Int) + 1 from rfl] at HHW HSK
      generalize X.has D S (k + 1) = h at *
      by_cases hhb : h = b
      · subst hhb
        have hbb : (h == h) = true := by simp
        have HSK2 : Hid (F (k + 1) = F k ++ [(k : Int) + 1]) := hid (by rw [HSK.out, if_pos (by simp)])
        have HM1' : Hid ((F k).length + 1 ≤ maxLen) := hid (by unfold maxLen; omega)
        have HM2' : Hid (((F k).length + 1) * 8 ≤ 140737488355328) := hid (by omega)
        generalize F k = G at *
        go_wp2
        go_quiet (fail)
        go_wp2_with fail
        refine (HHW.out _).mono ?_
        rintro e w5 ⟨rfl, q, p, hq⟩
        have hb5 : Below wr.heap.size wr w5 := by rw [hq]; exact below_drewN (below_drewN (below_drewN (Below.refl _ _) _) _) _
        have HO5 := hid (RowI.stays HOW.out hb5)
        have HB5 := hid (HBW.out.trans (hb5.mono HBW.out.size))
        clear hq hb5 z0 z1
        go_wp2_with (at_builtin; refine wpList_append_own _ rfl _ _ 22 rfl w.heap.size 3 i0 (.int .i64 0) 1 8 Try.underlying22 hi hz0 hz1 hz2 rfl (by decide) _ _ _ rfl (World.ownsRow.alloc HO5.out _) ⟨w5.heap.size, 0, none⟩ 1 1 [.int .i64 ((k : Int) + 1)] rfl rfl (X.Lit.one' _ _ _ _ rfl) (by simp [Value.oneCell']) HM1'.out HM2'.out (Nat.le_trans HB5.out.size (by simp)) ?_; intro v' w9 hown' hgrow _)
        have HB9 := hid (Below.grown (HB5.out.alloc HB5.out.size (.cells #[.int .i64 ((k : Int) + 1)] 3)) hgrow (by simp; have := HB5.out.size; omega) (fun q hq => (World.ownsRow.lt HO5.out q hq).1))
        have HO9 := hid (RowI.push hown')
        clear hown' hgrow
        go_wp2
        go_roundw
        case rel => exact ⟨k + 1, by omega, by go_num, by rw [HSK2.out]; exact HO9.out, HB9.out⟩
        case measure => simp [intOf]; omega
      · have hbb : (h == b) = false := by simpa using hhb
        have HSK2 : Hid (F (k + 1) = F k) := hid (by rw [HSK.out, if_neg (by simpa using hhb), List.append_nil])
        go_wp2
        go_quiet (fail)
        go_wp2_with fail
        refine (HHW.out _).mono ?_
        rintro e w5 ⟨rfl, q, p, hq⟩
        have hb5 : Below wr.heap.size wr w5 := by rw [hq]; exact below_drewN (below_drewN (below_drewN (Below.refl _ _) _) _) _
        have HO5 := hid (RowI.stays HOW.out hb5)
        have HB5 := hid (HBW.out.trans (hb5.mono HBW.out.size))
        clear hq hb5 z0 z1
        go_wp2
        go_roundw
        case rel => exact ⟨k + 1, by omega, by go_num, by rw [HSK2.out]; exact HO5.out, HB5.out⟩
        case measure => simp [intOf]; omega
    · have hke : k = L := by omega
      subst hke
      have hle : decide ((k : Int) + 1 ≤ y - x) = false := by rw [HYX.out]; simp; omega
      obtain ⟨x', cx, rfl, hr⟩ := HOW.out.rd
      have HR := hid hr
      clear hr
      go_wp2
      go_quiet (fail)
      go_wp2
      go_ret
      exact ⟨x', cx, rfl, RdI.stays HR.out (below_drewN (Below.refl _ _) _), below_drewN HBW.out _⟩

set_option maxHeartbeats 1000000 in
theorem refDistances_any (a : Option Addr) (c : Nat) (l : List Int) (w : World) (hm : l.length ≤ maxLen) (hl : RdI w a l) :
    Calls Try.prog 19 #[.slice a l.length c] w (X.LE (if X.chk l = 0 then X.sf l true (X.lng l) else []) (X.chk l) w) := by
  have HC := hid (refCheck_any a c l w hm hl)
  by_cases h0 : X.chk l = 0
  · have HS := hid ((fun W (h : Below w.heap.size w W) => sorted_any a c l true W (hl.stays h) (X.chk_zero.1 h0)))
    rw [if_pos h0]
    rw [h0] at HC ⊢
    generalize X.sf l true (X.lng l) = R at *
    clear hl h0
    go_enter Try.func19, Try.ntmps19
    go_wp2_with fail
    refine HC.out.mono ?_
    rintro e w1 ⟨rfl, hb1⟩
    go_wp2_with fail
    refine (HS.out _ hb1).mono ?_
    rintro e w2 ⟨x, cx, rfl, hr, hb⟩
    have HR := hid hr
    have HB := hid (hb1.trans (hb.mono hb1.size))
    clear hb1
    clear hr hb
    go_wp2
    go_ret2
    exact ⟨x, cx, rfl, HR.out, HB.out⟩
  · rw [if_neg h0]
    have hne : (X.chk l != 0) = true := by rw [bne_iff_ne]; exact h0
    generalize X.chk l = z at *
    clear hl h0
    go_enter Try.func19, Try.ntmps19
    go_wp2_with fail
    refine HC.out.mono ?_
    rintro e w1 ⟨rfl, hb1⟩
    have HB := hid hb1
    clear hb1
    go_wp2
    go_ret2
    exact ⟨none, 0, rfl, RdI.nil _ _, HB.out⟩

set_option maxHeartbeats 1000000 in
theorem refMissing_any (a : Option Addr) (c : Nat) (l : List Int) (w : World) (hm : l.length ≤ maxLen) (hl : RdI w a l) :
    Calls Try.prog 21 #[.slice a l.length c] w (X.LE (if X.chk l = 0 then X.sf l false (X.lng l) else []) (X.chk l) w) := by
  have HC := hid (refCheck_any a c l w hm hl)
  by_cases h0 : X.chk l = 0
  · have HS := hid ((fun W (h : Below w.heap.size w W) => sorted_any a c l false W (hl.stays h) (X.chk_zero.1 h0)))
    rw [if_pos h0]
    rw [h0] at HC ⊢
    generalize X.sf l false (X.lng l) = R at *
    clear hl h0
    go_enter Try.func21, Try.ntmps21
    go_wp2_with fail
    refine HC.out.mono ?_
    rintro e w1 ⟨rfl, hb1⟩
    go_wp2_with fail
    refine (HS.out _ hb1).mono ?_
    rintro e w2 ⟨x, cx, rfl, hr, hb⟩
    have HR := hid hr
    have HB := hid (hb1.trans (hb.mono hb1.size))
    clear hb1
    clear hr hb
    go_wp2
    go_ret2
    exact ⟨x, cx, rfl, HR.out, HB.out⟩
  · rw [if_neg h0]
    have hne : (X.chk l != 0) = true := by rw [bne_iff_ne]; exact h0
    generalize X.chk l = z at *
    clear hl h0
    go_enter Try.func21, Try.ntmps21
    go_wp2_with fail
    refine HC.out.mono ?_
    rintro e w1 ⟨rfl, hb1⟩
    have HB := hid hb1
    clear hb1
    go_wp2
    go_ret2
    exact ⟨none, 0, rfl, RdI.nil _ _, HB.out⟩
end Go.Proofs.Ythaoacnaeafbeaa
