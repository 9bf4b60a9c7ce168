/- Package fold: the walk of foldsIn. -/
import Derived.Test.YthaplnkmjggcfaaFChk
namespace Go.Proofs.Ythaplnkmjggcfaa
open Go.RowKit

/-- A segment can be folded in. -/
def F.can (l : List Int) (s : List UInt8) (i : Nat) : Bool :=
  if l.length = 1 then false
  else if (0 < i ∧ l.getD (i - 1) 0 < l.getD i 0) ∨ (i + 1 < l.length ∧ l.getD (i + 1) 0 < l.getD i 0) then false
  else decide (i = 0 ∨ i + 1 = l.length ∨ s.getD (i - 1) 0 ≠ s.getD i 0)

theorem F.getD_at {l : List Int} {i : Nat} (h : i < l.length) : l.getD i 0 = l[i] := by simp [List.getD, List.getElem?_eq_getElem h]

theorem F.byte_at {s : ByteArray} {i : Nat} (h : i < s.size) : s.data.toList.getD i 0 = s[i] := by
  have h2 : i < s.data.toList.length := by simpa using h
  simp [List.getD, List.getElem?_eq_getElem h2]
  rfl

theorem below_drewN {B : Nat} {w a : World} (h : Below B w a) (n : Nat) : Below B w (a.drewN n) := h.trans ⟨rfl, rfl, rfl, Nat.le_refl _, fun _ _ => rfl⟩

set_option maxHeartbeats 2000000 in
set_option maxRecDepth 100000 in
theorem foldsIn_any (a : Option Addr) (c : Nat) (l : List Int) (s : ByteArray) (i : Nat) (w : World) (h1 : 1 ≤ l.length) (h7 : l.length ≤ 7) (hs : s.size + 1 = l.length) (hx : RdI w a l) (hi : i < l.length) :
    Calls Try.prog 68 #[F.strip a l.length c s, .int .i64 i] w fun e w' => e = .returned (.bool (F.can l s.data.toList i)) ∧ Below w.heap.size w w' := by
  have hb0 : Below w.heap.size w (w.alloc (.cells #[.slice a l.length c, .string s] 24)) := (Below.refl _ _).alloc (Nat.le_refl _) _
  have hc0 : ∀ w', Below (w.alloc (.cells #[.slice a l.length c, .string s] 24)).heap.size (w.alloc (.cells #[.slice a l.length c, .string s] 24)) w' →
      w'.cell? ⟨w.heap.size, 0, none⟩ = some (.slice a l.length c) ∧ w'.cell? ⟨w.heap.size, 1, none⟩ = some (.string s) ∧ Below w.heap.size w w' := fun w' hb =>
    ⟨cell_stays hb (Nat.le_refl _) (by rw [World.cell?_alloc_at _ _ _ _ rfl]; rfl), cell_stays hb (Nat.le_refl _) (by rw [World.cell?_alloc_at _ _ _ _ rfl]; rfl), hb0.trans (hb.mono hb0.size)⟩
  have HD := hid (done_any a l.length c s (w.alloc (.cells #[.slice a l.length c, .string s] 24)) (by unfold maxLen; omega))
  have HC0 := hid hc0
  clear hc0 hb0
  unfold F.strip at HD ⊢
  by_cases hn1 : l.length = 1
  · have HF : Hid (F.can l s.data.toList i = false) := hid (by unfold F.can; rw [if_pos hn1])
    rw [show decide (l.length = 1) = true from by simpa using hn1] at HD
    clear hs hn1 hi
    go_enter Try.func68, Try.ntmps68
    go_wp2_with fail
    refine HD.out.mono ?_
    rintro e w2 ⟨rfl, hb⟩
    have HB := hid (HC0.out w2 hb).2.2
    clear hb
    go_wp2
    go_ret
    exact ⟨ret_bool HF.out.symm, HB.out⟩
  rw [show decide (l.length = 1) = false from by simpa using hn1] at HD
  obtain ⟨b, off, rfl, hc⟩ := hx i hi
  have HF : Hid (F.can l s.data.toList i = if (0 < i ∧ l.getD (i - 1) 0 < l[i]) ∨ (i + 1 < l.length ∧ l.getD (i + 1) 0 < l[i]) then false else decide (i = 0 ∨ i + 1 = l.length ∨ s.data.toList.getD (i - 1) 0 ≠ s.data.toList.getD i 0)) := hid (by
    unfold F.can; rw [if_neg hn1, F.getD_at hi])
  have HX := hid hx
  have HFC := hid (fun w' (hb : Below w.heap.size w w') => cell_stays hb (Nat.le_refl _) hc)
  clear hc
  generalize l[i] = x at *
  generalize F.can l s.data.toList i = r at *
  have hlast : (l.length : Int) - 1 = ((l.length - 1 : Nat) : Int) := by omega
  by_cases hi0 : i = 0
  · subst hi0
    obtain ⟨b', off', he, hcq⟩ := HX.out 1 (by omega)
    simp only [Option.some.injEq, Addr.mk.injEq, and_true] at he
    obtain ⟨rfl, rfl⟩ := he
    have HQ := hid (fun w' (hb : Below w.heap.size w w') => cell_stays hb (Nat.le_refl _) hcq)
    rw [F.getD_at (show 0 + 1 < l.length by omega)] at HF
    have e1 : l[0 + 1]'(by omega) = l[1]'(by omega) := rfl
    rw [e1] at HF
    clear hcq e1
    rw [Nat.add_zero] at HFC
    generalize l[1]'(by omega) = q at *
    have hlt : (0 : Int) < (l.length : Int) - 1 := by omega
    go_enter Try.func68, Try.ntmps68
    go_wp2_with fail
    refine HD.out.mono ?_
    rintro e w2 ⟨rfl, hb⟩
    obtain ⟨k1, k2, hB⟩ := HC0.out w2 hb
    have c1 := HFC.out w2 hB
    have c2 := HQ.out w2 hB
    have HB := hid hB
    clear hb hB
    by_cases hq : q < x
    · have HR : Hid (r = false) := hid (by rw [HF.out, if_pos (Or.inr ⟨by omega, hq⟩)])
      clear hlast
      go_wp2
      go_ret
      exact ⟨ret_bool HR.out.symm, HB.out⟩
    · have HR : Hid (r = true) := hid (by rw [HF.out, if_neg (by omega)]; simp)
      have t0 : ((0 : Int) == 0) = true := rfl
      clear hlast
      go_wp2
      go_quiet (fail)
      go_wp2
      go_ret
      exact ⟨ret_bool HR.out.symm, below_drewN HB.out _⟩
  · obtain ⟨b', off', he, hcp⟩ := HX.out (i - 1) (by omega)
    simp only [Option.some.injEq, Addr.mk.injEq, and_true] at he
    obtain ⟨rfl, rfl⟩ := he
    have HP := hid (fun w' (hb : Below w.heap.size w w') => cell_stays hb (Nat.le_refl _) hcp)
    rw [F.getD_at (show i - 1 < l.length by omega)] at HF
    clear hcp
    generalize l[i - 1]'(by omega) = p at *
    have hi1 : (0 : Int) < (i : Int) := by omega
    have hii : ¬ (i : Int) = 0 := by omega
    have hii2 : ((i : Int) == 0) = false := by simpa using hii
    have hsub : (i : Int) - 1 = ((i - 1 : Nat) : Int) := by omega
    have hsub2 : ((i - 1 : Nat) : Int) < (l.length : Int) := by omega
    by_cases hp : p < x
    · have HR : Hid (r = false) := hid (by rw [HF.out, if_pos (Or.inl ⟨by omega, hp⟩)])
      go_enter Try.func68, Try.ntmps68
      go_wp2_with fail
      refine HD.out.mono ?_
      rintro e w2 ⟨rfl, hb⟩
      obtain ⟨k1, k2, hB⟩ := HC0.out w2 hb
      have c1 := HFC.out w2 hB
      have c2 := HP.out w2 hB
      have HB := hid hB
      clear hb hB
      go_wp2
      go_ret
      exact ⟨ret_bool HR.out.symm, HB.out⟩
    · by_cases hil : i + 1 = l.length
      · have HR : Hid (r = true) := hid (by rw [HF.out, if_neg (by omega), decide_eq_true (Or.inr (Or.inl hil))])
        have hilt : ¬ (i : Int) < (l.length : Int) - 1 := by omega
        have HQE : Hid ((i : Int) = (l.length : Int) - 1) := hid (by omega)
        have HIL := hid hil
        clear hil hlast hs hi hsub2
        have hiL : (i : Int) < (l.length : Int) := by have := HQE.out; omega
        go_enter Try.func68, Try.ntmps68
        go_wp2_with fail
        refine HD.out.mono ?_
        rintro e w2 ⟨rfl, hb⟩
        obtain ⟨k1, k2, hB⟩ := HC0.out w2 hb
        have c1 := HFC.out w2 hB
        have c2 := HP.out w2 hB
        have HB := hid hB
        clear hb hB
        go_wp2
        have hq3 : ((i : Int) == (l.length : Int) - 1) = true := by have := HQE.out; simp; omega
        go_quiet (fail)
        go_wp2
        go_ret
        exact ⟨ret_bool HR.out.symm, below_drewN HB.out _⟩
      · obtain ⟨b', off', he, hcq⟩ := HX.out (i + 1) (by omega)
        simp only [Option.some.injEq, Addr.mk.injEq, and_true] at he
        obtain ⟨rfl, rfl⟩ := he
        have HQ := hid (fun w' (hb : Below w.heap.size w w') => cell_stays hb (Nat.le_refl _) hcq)
        rw [F.getD_at (show i + 1 < l.length by omega)] at HF
        clear hcq
        generalize l[i + 1]'(by omega) = q at *
        have hilt : (i : Int) < (l.length : Int) - 1 := by omega
        have hilt2 : (i : Int) + 1 < (l.length : Int) := by omega
        have hine : ¬ (i : Int) = (l.length : Int) - 1 := by omega
        have hine2 : ((i : Int) == (l.length : Int) - 1) = false := by simpa using hine
        have hs1 : i < s.size := by omega
        have hs2 : i - 1 < s.size := by omega
        rw [F.byte_at hs1, F.byte_at hs2] at HF
        by_cases hq : q < x
        · have HR : Hid (r = false) := hid (by rw [HF.out, if_pos (Or.inr ⟨by omega, hq⟩)])
          go_enter Try.func68, Try.ntmps68
          go_wp2_with fail
          refine HD.out.mono ?_
          rintro e w2 ⟨rfl, hb⟩
          obtain ⟨k1, k2, hB⟩ := HC0.out w2 hb
          have c1 := HFC.out w2 hB
          have c2 := HP.out w2 hB
          have c3 := HQ.out w2 hB
          have HB := hid hB
          clear hb hB
          go_wp2
          go_ret
          exact ⟨ret_bool HR.out.symm, HB.out⟩
        · have HR : Hid (r = decide ((s[i - 1]'hs2).toNat ≠ (s[i]'hs1).toNat)) := hid (by
            rw [HF.out, if_neg (by omega)]
            have h1 : ¬ i + 1 = l.length := hil
            simp [hi0, h1, UInt8.toNat_inj])
          generalize hu : (s[i - 1]'hs2).toNat = u at *
          generalize hv : (s[i]'hs1).toNat = v at *
          have hb1 : ((i : Int) - 1).toNat = i - 1 := by omega
          have hb2 : (0 : Int) ≤ (i : Int) - 1 := by omega
          have hb3 : (i : Int) - 1 < (s.size : Int) := by omega
          have hb4 : (i : Int) < (s.size : Int) := by omega
          have hb5 : IntKind.i64.wrap ((i : Int) - 1) = (i : Int) - 1 := by rw [IntKind.wrap_i64]; omega
          go_enter Try.func68, Try.ntmps68
          go_wp2_with fail
          refine HD.out.mono ?_
          rintro e w2 ⟨rfl, hb⟩
          obtain ⟨k1, k2, hB⟩ := HC0.out w2 hb
          have c1 := HFC.out w2 hB
          have c2 := HP.out w2 hB
          have c3 := HQ.out w2 hB
          have HB := hid hB
          clear hb hB
          go_wp2
          have d1 : decide ((i : Int) = 0) = false := by simpa using hii
          have d2 : decide (i = 0) = false := by simpa using hi0
          have d3 : decide ((i : Int) = (l.length : Int) - 1) = false := by simpa using hine
          have d4 : ((i : Int) == 0) = false := by simpa using hii
          have d5 : ((i : Int) == (l.length : Int) - 1) = false := by simpa using hine
          have d6 : decide ((i : Int) = ((l.length - 1 : Nat) : Int)) = false := by rw [← hlast]; simpa using hine
          have d7 : decide (i = l.length - 1) = false := by simp; omega
          have d8 : ((i : Int) == ((l.length - 1 : Nat) : Int)) = false := by rw [← hlast]; simpa using hine
          clear hii hi0 hine hine2 hii2 hi1 hil hilt hilt2 hlast
          by_cases huv : u = v
          · have HE : Hid (r = false) := hid (by rw [HR.out]; simp [huv])
            subst huv
            have t_u : ((u : Int) == (u : Int)) = true := by simp
            go_quiet (fail)
            go_wp2
            go_ret
            exact ⟨ret_bool HE.out.symm, below_drewN HB.out _⟩
          · have HE : Hid (r = true) := hid (by rw [HR.out]; simp [huv])
            have t_u : ((u : Int) == (v : Int)) = false := by simp; omega
            go_quiet (fail)
            go_wp2
            go_ret
            exact ⟨ret_bool (by rw [HE.out]; simp; omega), below_drewN HB.out _⟩

end Go.Proofs.Ythaplnkmjggcfaa
