/- Package tuscheref11: the walk of Common. -/
import Derived.Test.YthaoacnaeafbeaaXLoc
import Derived.Test.YthaoacnaeafbeaaXRef
import Derived.BigRegion
namespace Go.Proofs.Ythaoacnaeafbeaa
open Go.RowKit

/-- How many of the first k numbers are x. -/
def X.cn (l : List Int) (x : Int) (k : Nat) : Nat := (List.range k).countP fun j => l.getD j 0 == x
theorem X.cn_succ (l : List Int) (x : Int) (k : Nat) : X.cn l x (k + 1) = X.cn l x k + if l.getD k 0 = x then 1 else 0 := by
  unfold X.cn
  rw [List.range_succ, List.countP_append, List.countP_singleton]
  by_cases h : l.getD k 0 = x
  · rw [if_pos h, if_pos (by simpa using h)]
  · rw [if_neg h, if_neg (by simpa using h)]
theorem X.cn_form {most : Int} {l : List Int} (h : X.Up most l) (x : Int) : ∀ k, k ≤ l.length → ((∃ j, j < k ∧ l.getD j 0 = x) ∧ X.cn l x k = 1) ∨ ((∀ j, j < k → l.getD j 0 ≠ x) ∧ X.cn l x k = 0)
  | 0, _ => .inr ⟨fun j h => absurd h (Nat.not_lt_zero _), rfl⟩
  | k + 1, hk => by
    rw [X.cn_succ]
    rcases X.cn_form h x k (by omega) with ⟨⟨j, h1, h2⟩, h3⟩ | ⟨h1, h2⟩
    · have := h.lt j k h1 (by omega)
      exact .inl ⟨⟨j, by omega, h2⟩, by rw [h3, if_neg (by omega)]⟩
    · by_cases e : l.getD k 0 = x
      · exact .inl ⟨⟨k, by omega, e⟩, by rw [h2, if_pos e]⟩
      · refine .inr ⟨fun j hj => ?_, by rw [h2, if_neg e]⟩
        by_cases ej : j = k
        · rw [ej]; exact e
        · exact h1 j (by omega)
theorem X.cn_all {most : Int} {l : List Int} (h : X.Up most l) (x : Int) : X.cn l x l.length = if x ∈ l then 1 else 0 := by
  rcases X.cn_form h x l.length (Nat.le_refl _) with ⟨⟨j, h1, h2⟩, h3⟩ | ⟨h1, h2⟩
  · rw [h3, if_pos]
    rw [← h2, List.getD_eq_getElem?_getD, List.getElem?_eq_getElem h1]
    exact List.getElem_mem h1
  · rw [h2, if_neg]
    intro hm
    obtain ⟨j, hj, e⟩ := List.getElem_of_mem hm
    exact h1 j hj (by rw [List.getD_eq_getElem?_getD, List.getElem?_eq_getElem hj]; exact e)
theorem X.cn_le (l : List Int) (x : Int) (k : Nat) : X.cn l x k ≤ k := by
  unfold X.cn
  have := List.countP_le_length (p := fun j => l.getD j 0 == x) (l := List.range k)
  simpa using this

set_option maxHeartbeats 4000000 in
set_option maxRecDepth 100000 in
theorem refCommon_any (a : Option Addr) (c : Nat) (l : List Int) (s : Int) (w : World) (hm : l.length ≤ maxLen) (hl : RdI w a l) :
    Calls Try.prog 26 #[.slice a l.length c, .int .i64 s] w fun e w' => e = .returned (.tuple #[.int .i64 (X.comV l s), .int .i64 (X.comE l s)]) ∧ Below w.heap.size w w' := by
  have HC := hid (refCheck_any a c l w hm hl)
  have HW := hid (fun W => is_any s (-60) 60 W)
  unfold X.comV X.comE
  by_cases h0 : X.chk l = 0
  · have hok := X.chk_zero.1 h0
    rw [if_pos h0]
    rw [h0] at HC
    cases hw : X.wi s (-60) 60 with
    | false =>
      rw [hw] at HW
      clear hw hl
      rw [if_neg (show ¬ false = true by simp), if_neg (by omega)]
      go_enter Try.func26, Try.ntmps26
      go_wp2_with fail
      refine HC.out.mono ?_
      rintro e w1 ⟨rfl, hb⟩
      have HB := hid hb
      clear hb
      go_wp2_with fail
      refine (HW.out _).mono ?_
      rintro e w2 ⟨rfl, rfl⟩
      go_wp2
      go_ret2
      exact ⟨rfl, HB.out⟩
    | true =>
      have hs := X.wi_true.1 hw
      rw [hw] at HW
      have h8 := hok.eight
      have h2 := hok.two
      have HOK := hid hok
      have HST := hid (X.com_succ l s)
      have HCL := hid (X.com_le l s)
      have HC0 : Hid (X.com l s 0 = 0) := hid rfl
      have HCN := hid (fun x k => X.cn_succ l x k)
      have HCA := hid (fun x => X.cn_all hok.up x)
      have HCE := hid (fun x k => X.cn_le l x k)
      have HCZ : Hid (∀ x, X.cn l x 0 = 0) := hid (fun _ => rfl)
      obtain ⟨b, o, rfl, _⟩ := X.num hl (show 0 < l.length by omega)
      have HL := hid (fun W (h : Below w.heap.size w W) j (hj : j < l.length) => show W.cell? ⟨b, o + j, none⟩ = some (.int .i64 (l.getD j 0)) by
        obtain ⟨b', o', he, hc⟩ := X.num hl hj
        simp only [Option.some.injEq, Addr.mk.injEq, and_true] at he
        obtain ⟨rfl, rfl⟩ := he
        exact cell_stays h (Nat.le_refl _) hc)
      clear hw hl hok h0
      rw [if_pos (show true = true from rfl), if_pos rfl]
      generalize X.com l s = F at *
      generalize X.cn l = C at *
      go_enter Try.func26, Try.ntmps26
      go_wp2_with fail
      refine HC.out.mono ?_
      rintro e w1 ⟨rfl, hb⟩
      have HB := hid hb
      clear hb
      go_wp2_with fail
      refine (HW.out _).mono ?_
      rintro e w2 ⟨rfl, rfl⟩
      go_wp2_with fail
      go_loopw [7, 8] (fun n i wr => ∃ k : Nat, k ≤ l.length ∧ i = .int .i64 k ∧ n = .int .i64 (F k : Nat) ∧ Below w.heap.size w wr) (fun _ i _ => l.length - (intOf i).toNat)
      case atStart => exact ⟨0, Nat.zero_le _, rfl, by rw [HC0.out]; rfl, HB.out⟩
      case round => as_aux_lemma =>
        obtain ⟨k, hk, rfl, rfl, hb⟩ := hrel
        have HBW := hid hb
        clear hb HB
        by_cases hlt : k < l.length
        · have hx0 := HOK.out.up.lo k hlt
          have hx1 := HOK.out.up.hi k hlt
          have hkk : (0 : Int) ≤ (k : Int) ∧ (k : Int) < (l.length : Int) := by omega
          have HST2 := hid (HST.out k)
          have hfl := HCL.out k
          have HK := hid (fun W h => HL.out W h k hlt)
          generalize l.getD k 0 = x at *
          have hwr : IntKind.i64.wrap (x + s) = x + s := IntWalk.i64_in _ (by omega)
          have HCX := hid (HCA.out (x + s))
          have HCZ2 := hid (HCZ.out (x + s))
          have HCN2 := hid (HCN.out (x + s))
          have HCE2 := hid (HCE.out (x + s))
          generalize C (x + s) = G at *
          generalize hF : F k = m at *
          clear hF
          go_wp2_with fail
          go_loopw [7, 9] (fun n i wr => ∃ j : Nat, j ≤ l.length ∧ i = .int .i64 j ∧ n = .int .i64 ((m + G j : Nat) : Int) ∧ Below w.heap.size w wr) (fun _ i _ => l.length - (intOf i).toNat)
          case atStart => exact ⟨0, Nat.zero_le _, rfl, by rw [HCZ2.out]; rfl, HBW.out⟩
          case round => as_aux_lemma =>
            obtain ⟨j, hj, rfl, rfl, hb⟩ := hrel
            have HBX := hid hb
            have y0 := HK.out wr hb
            by_cases hjl : j < l.length
            · have y1 := HL.out wr hb j hjl
              have hjj : (0 : Int) ≤ (j : Int) ∧ (j : Int) < (l.length : Int) := by omega
              have HS := hid (HCN2.out j)
              have hgl := HCE2.out j
              clear hb
              generalize l.getD j 0 = y at *
              generalize hG : G j = g at *
              clear hG
              by_cases hxy : x + s = y
              · have HS2 : Hid (G (j + 1) = g + 1) := hid (by rw [HS.out, if_pos hxy.symm])
                have heq : (x + s == y) = true := by simpa using hxy
                clear hxy
                go_wp2
                go_quiet (fail)
                go_wp2
                go_roundw
                case rel => exact ⟨j + 1, by omega, by go_num, by rw [HS2.out]; go_num, below_drewN HBX.out _⟩
                case measure => simp [intOf]; omega
              · have HS2 : Hid (G (j + 1) = g) := hid (by rw [HS.out, if_neg (fun e => hxy e.symm), Nat.add_zero])
                have heq : (x + s == y) = false := by simpa using hxy
                clear hxy
                go_wp2
                go_quiet (fail)
                go_wp2
                go_roundw
                case rel => exact ⟨j + 1, by omega, by go_num, by rw [HS2.out], below_drewN HBX.out _⟩
                case measure => simp [intOf]; omega
            · have hje : j = l.length := by omega
              subst hje
              have HFN : Hid (F (k + 1) = m + G l.length) := hid (by rw [HST2.out, HCX.out])
              clear hb
              go_wp2
              go_roundw
              case rel => exact ⟨k + 1, by omega, by go_num, by rw [HFN.out], HBX.out⟩
              case measure => simp [intOf]; omega
        · have hke : k = l.length := by omega
          subst hke
          go_wp2
          go_ret2
          exact ⟨rfl, HBW.out⟩
  · rw [if_neg h0, if_neg h0]
    have hne : (X.chk l != 0) = true := by rw [bne_iff_ne]; exact h0
    have hne2 : (X.chk l == 0) = false := by rw [beq_eq_false_iff_ne]; exact h0
    generalize X.chk l = z at *
    clear hl h0
    go_enter Try.func26, Try.ntmps26
    go_wp2_with fail
    refine HC.out.mono ?_
    rintro e w1 ⟨rfl, hb⟩
    have HB := hid hb
    clear hb
    go_wp2
    go_ret2
    exact ⟨rfl, HB.out⟩
end Go.Proofs.Ythaoacnaeafbeaa
