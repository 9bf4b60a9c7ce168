/- The walks of the document's own answers for Fixes and Swaps. -/
import Derived.Test.YtafpfcjemlonpaaRefRes
import Derived.Deep.RegionHeld3
namespace Go.Proofs.Ytafpfcjemlonpaa
open Go.RowKit

theorem P.cd_ne13 (T : List (List Int)) (l : List Int) (k : Int) : P.checkDigits T l k ≠ 13 := by
  intro h
  unfold P.checkDigits P.check at h
  repeat (split at h <;> try omega)

theorem P.wrong_eq (T : List (List Int)) (l : List Int) : P.wrong T l = if P.checkDigits T l 2 ≠ 0 then P.checkDigits T l 2 else if P.after T l = 0 then 20 else 0 := by
  have h13 := P.cd_ne13 T l 2
  unfold P.wrong P.right
  by_cases h0 : P.checkDigits T l 2 = 0
  · by_cases h1 : P.after T l = 0
    · simp [h0, h1]
    · simp [h0, h1]
  · simp [h0, h13]

set_option maxHeartbeats 1000000 in
theorem refWrong_any (a ad : Option Addr) (c cd : Nat) (T : List (List Int)) (l : List Int) (w : World) (hm : l.length ≤ maxLen) (hT : RdM w a T) (hx : RdI w ad l) :
    Calls Try.prog 75 #[.slice a T.length c, .slice ad l.length cd] w fun e w' => e = .returned (.int .i64 (P.wrong T l)) ∧ Below w.heap.size w w' := by
  have hcall := refCoded_any a ad c cd T l w hm hT hx
  rw [P.wrong_eq]
  by_cases h0 : P.checkDigits T l 2 = 0
  · obtain ⟨ht, _, _, hd⟩ := digits_ok h0
    have hcall2 := fun w' (hb : Below w.heap.size w w') => refState_any a ad c cd l.length T l w' rfl hm (hT.stays hb) ht.sq (by have := ht.lo; omega) (hx.stays hb) hd
    rw [h0] at hcall
    rw [if_neg (by simp [h0])]
    have HC := hid hcall; clear hcall
    generalize P.after T l = s at *
    have HC2 := hid hcall2; clear hcall2
    clear h0 ht hd hT hx hm
    have both : s = 0 ∧ (if s = 0 then (20 : Int) else 0) = 20 ∨ ((s : Int) == 0) = false ∧ (if s = 0 then (20 : Int) else 0) = 0 := by
      by_cases hs : s = 0
      · exact Or.inl ⟨hs, by simp [hs]⟩
      · exact Or.inr ⟨by rw [beq_eq_false_iff_ne]; omega, by simp [hs]⟩
    rcases both with ⟨rfl, h2⟩ | ⟨h1, h2⟩
    all_goals
      rw [h2]
      clear h2
      go_enter Try.func75, Try.ntmps75
      go_wp2_with fail
      refine HC.out.mono ?_
      rintro e w' ⟨rfl, hb⟩
      have HC3 := hid (HC2.out w' hb)
      have HB := hid hb; clear hb
      go_wp2_with (go_at_call 69; refine HC3.out.mono ?_; rintro e w2 ⟨rfl, hb2⟩)
      go_ret
      exact ⟨rfl, HB.out.trans (hb2.mono HB.out.size)⟩
  · rw [if_pos h0]
    generalize P.checkDigits T l 2 = e0 at *
    have ht : (e0 == 0) = false := by rw [beq_eq_false_iff_ne]; exact h0
    have HC := hid hcall; clear hcall h0 hT hx hm
    go_enter Try.func75, Try.ntmps75
    go_wp2_with (go_at_call 72; refine HC.out.mono ?_; rintro e w' ⟨rfl, hb⟩)
    go_ret
    exact ⟨rfl, hb⟩

/-- The fixes before index k, and the one at k if it is below d. -/
def P.fixB (T : List (List Int)) (l : List Int) (k d : Nat) : List (Int × Int) := (P.fixes T l).take k ++ if P.fixAt T l k < d then [((k : Int), (P.fixAt T l k : Int))] else []

theorem P.fixB_end {T : List (List Int)} {l : List Int} {k : Nat} (hk : k < l.length) (h : P.fixAt T l k < T.length) : P.fixB T l k T.length = (P.fixes T l).take (k + 1) := by
  unfold P.fixB
  rw [if_pos h]
  unfold P.fixes
  rw [range_map_take _ _ _ hk]

theorem P.fixB_hit {T : List (List Int)} {l : List Int} {k d : Nat} (h : d = P.fixAt T l k) : P.fixB T l k (d + 1) = P.fixB T l k d ++ [((k : Int), (d : Int))] := by
  unfold P.fixB
  rw [if_pos (by omega), if_neg (by omega), h]
  simp

theorem P.fixB_miss {T : List (List Int)} {l : List Int} {k d : Nat} (h : d ≠ P.fixAt T l k) : P.fixB T l k (d + 1) = P.fixB T l k d := by
  unfold P.fixB
  by_cases h1 : P.fixAt T l k < d
  · rw [if_pos h1, if_pos (by omega)]
  · rw [if_neg h1, if_neg (by omega)]

theorem P.fixB_zero (T : List (List Int)) (l : List Int) (k : Nat) : P.fixB T l k 0 = (P.fixes T l).take k := by
  unfold P.fixB
  rw [if_neg (by omega), List.append_nil]

theorem P.fixB_le (T : List (List Int)) (l : List Int) (k d : Nat) (h : l.length ≤ 12) : (P.fixB T l k d).length ≤ 13 := by
  unfold P.fixB
  have h1 : ((P.fixes T l).take k).length ≤ 12 := by
    rw [List.length_take]
    have : (P.fixes T l).length = l.length := by simp [P.fixes]
    omega
  rw [List.length_append]
  split <;> simp only [List.length_cons, List.length_nil] <;> omega

set_option maxHeartbeats 4000000 in
set_option maxRecDepth 100000 in
theorem refFixes_any (a ac : Option Addr) (c cc : Nat) (T : List (List Int)) (l : List Int) (w : World) (hm : l.length ≤ maxLen) (hT : RdM w a T) (hx : RdI w ac l) :
    Calls Try.prog 40 #[.slice a T.length c, .slice ac l.length cc] w
      fun e w' => ∃ r cr xs, e = .returned (.tuple #[.slice r xs.length cr, .int .i64 (P.wrong T l)]) ∧ (xs = if P.wrong T l ≠ 0 then [] else P.fixes T l) ∧ RdP w' r xs ∧ Below w.heap.size w w' := by
  have hcall := refWrong_any a ac c cc T l w hm hT hx
  by_cases h0 : P.wrong T l = 0
  · obtain ⟨ht, hl2, hl12, hd, _⟩ := wrong_ok h0
    rw [h0] at hcall ⊢
    have HC := hid hcall; clear hcall
    rw [if_neg (by simp)]
    have h10 := ht.hi
    have HW := hid (fun w' (hb : Below w.heap.size w w') (k d : Nat) (hk : k < l.length) => with_any ac cc l.length l k (d : Int) w' rfl hk (by omega) (hx.stays hb))
    have HS := hid (fun w' (hb : Below w.heap.size w w') (k d : Nat) (hdn : d < T.length) g cap (hr : RdI w' (some ⟨g, 0, none⟩) (l.set k (d : Int))) => refState_any a (some ⟨g, 0, none⟩) c cap l.length T (l.set k (d : Int)) w' (by simp) hm (hT.stays hb) ht.sq (by have := ht.lo; omega) hr (hd.set k hdn))
    have HF := hid (fun (k : Nat) (hk : k < l.length) => ht.fixAt l hd k hk)
    have HU := hid (fun (k d : Nat) (hk : k < l.length) (hdn : d < T.length) (hz : P.after T (l.set k (d : Int)) = 0) => ht.fix_one l hd k hk hdn (ht.fixAt l hd k hk).1 (by rw [hz, (ht.fixAt l hd k hk).2.1]))
    have HLE := hid (fun k d => P.fixB_le T l k d hl12)
    obtain ⟨i0, hi, hz0, hz1, hz2⟩ := info_parts (show (Try.prog.info? 83).map (fun i => (i.zero, i.size, i.bytes)) = some (some (.agg #[.int .i64 0, .int .i64 0]), 2, 16) by kernel_rfl)
    clear ht hd hT hx hm h0
    go_enter Try.func40, Try.ntmps40
    go_wp2_with fail
    refine HC.out.mono ?_
    rintro e w1 ⟨rfl, hb⟩
    have HB := hid hb; clear hb
    go_wp2
    go_loopw [7, 8] (fun v i wr => ∃ k : Nat, k ≤ l.length ∧ i = .int .i64 k ∧ wr.ownsRow w.heap.size 83 2 v (P.fixB T l k 0).length (pairCells (P.fixB T l k 0)) ∧ Below w.heap.size w wr) (fun _ i _ => l.length - (intOf i).toNat)
    case atStart => exact ⟨0, Nat.zero_le _, rfl, by rw [P.fixB_zero]; exact World.ownsRow_nil _ _ _ _, HB.out⟩
    case round =>
      obtain ⟨k, hk, rfl, hown, hb⟩ := hrel
      have HO := hid hown; clear hown
      have HB2 := hid hb; clear hb
      by_cases hlt : k < l.length
      · obtain ⟨hf1, hf2, _⟩ := HF.out k hlt
        have hend := P.fixB_end hlt hf1
        have HE : Hid (P.fixB T l k T.length = P.fixB T l (k + 1) 0) := hid (by rw [hend, P.fixB_zero])
        have HF1 := hid hf1
        have HF2 := hid hf2
        clear hend hf1 hf2
        go_wp2
        obtain ⟨wo, rfl⟩ : ∃ wo : World, wo = wr := ⟨_, rfl⟩
        go_loopw [7, 9] (fun v i wr => ∃ d : Nat, d ≤ T.length ∧ i = .int .i64 d ∧ wr.ownsRow w.heap.size 83 2 v (P.fixB T l k d).length (pairCells (P.fixB T l k d)) ∧ Below w.heap.size w wr) (fun _ i _ => T.length - (intOf i).toNat)
        case atStart => exact ⟨0, Nat.zero_le _, rfl, HO.out, HB2.out⟩
        case round =>
          obtain ⟨d, hd, rfl, hown, hb⟩ := hrel
          have HO2 := hid hown; clear hown
          have HB3 := hid hb; clear hb
          by_cases hdl : d < T.length
          · have hle := HLE.out k d
            have HW1 := hid (HW.out wr HB3.out k d hlt)
            by_cases he : d = P.fixAt T l k
            · have HH := hid (P.fixB_hit he)
              have HZ : Hid (P.after T (l.set k (d : Int)) = 0) := hid (by rw [he]; exact HF2.out)
              clear he
              go_wp2_with fail
              refine HW1.out.mono ?_
              rintro e w2 ⟨g, cap, rfl, hr, hb2⟩
              have HB4 := hid (HB3.out.trans (hb2.mono HB3.out.size))
              have hst := HS.out w2 HB4.out k d hdl g cap hr
              rw [HZ.out] at hst
              have HST := hid hst
              have HO3 := hid (ownsRow_stays HO2.out hb2)
              clear hb2 hr hst
              go_wp2_with fail
              refine HST.out.mono ?_
              rintro e w3 ⟨rfl, hb3⟩
              have HB5 := hid (HB4.out.trans (hb3.mono HB4.out.size))
              have HO4 := hid (ownsRow_stays HO3.out hb3)
              clear hb3
              go_wp2_with (at_builtin; refine wpList_append_own _ rfl _ _ 50 rfl w.heap.size 83 i0 (.agg #[.int .i64 0, .int .i64 0]) 2 16 Try.underlying50 hi hz0 hz1 hz2 rfl (by decide) _ _ _ rfl (HO4.out.alloc _) ⟨w3.heap.size, 0, none⟩ 1 1 [.int .i64 (k : Int), .int .i64 (d : Nat)] rfl rfl ?c1 ?c2 ?c3 ?c4 ?c5 ?_)
              case c1 =>
                intro j u hj
                match j, hj with
                | 0, hj => simp at hj; subst hj; simp [Addr.add]
                | 1, hj => simp at hj; subst hj; simp [Addr.add]
              case c2 => intro u hu; simp at hu; rcases hu with rfl | rfl <;> rfl
              case c3 => unfold maxLen; omega
              case c4 => omega
              case c5 => have := HB5.out.size; simp; omega
              intro v' w4 hown' hgrow _
              have HB6 := hid ((HB5.out.alloc HB5.out.size _).grown hgrow (by have := HB5.out.size; simp; omega) (fun q hq => (World.ownsRow.lt HO4.out q hq).1))
              have HO5 := hid hown'
              clear hown' hgrow
              go_wp2
              go_roundw
              case rel => exact ⟨d + 1, by omega, by go_num, by rw [HH.out, pairCells_snoc, List.length_append]; exact HO5.out, HB6.out⟩
              case measure => simp [intOf]; omega
            · have HH := hid (P.fixB_miss he)
              go_wp2_with fail
              refine HW1.out.mono ?_
              rintro e w2 ⟨g, cap, rfl, hr, hb2⟩
              have HB4 := hid (HB3.out.trans (hb2.mono HB3.out.size))
              have hst := HS.out w2 HB4.out k d hdl g cap hr
              have hne : P.after T (l.set k (d : Int)) ≠ 0 := fun hz => he (HU.out k d hlt hdl hz)
              generalize P.after T (l.set k (d : Int)) = s at hst hne
              have ht : ((s : Int) == 0) = false := by rw [beq_eq_false_iff_ne]; omega
              have HST := hid hst
              have HO3 := hid (ownsRow_stays HO2.out hb2)
              clear hb2 hr hst hne
              go_wp2_with fail
              refine HST.out.mono ?_
              rintro e w3 ⟨rfl, hb3⟩
              have HB5 := hid (HB4.out.trans (hb3.mono HB4.out.size))
              have HO4 := hid (ownsRow_stays HO3.out hb3)
              clear hb3
              go_wp2
              go_roundw
              case rel => exact ⟨d + 1, by omega, by go_num, by rw [HH.out]; exact HO4.out, HB5.out⟩
              case measure => simp [intOf]; omega
          · have hdn : d = T.length := by omega
            have HO3 : Hid (wr.ownsRow w.heap.size 83 2 u7 (P.fixB T l (k + 1) 0).length (pairCells (P.fixB T l (k + 1) 0))) := hid (by have := HO2.out; rw [hdn, HE.out] at this; exact this)
            clear HO2
            go_wp2
            go_roundw
            case rel => exact ⟨k + 1, by omega, by go_num, HO3.out, HB3.out⟩
            case measure => simp [intOf]; omega
      · have hk' : k = l.length := by omega
        have HO3 : Hid (wr.ownsRow w.heap.size 83 2 u7 (P.fixes T l).length (pairCells (P.fixes T l))) := hid (by
          have := HO.out
          rw [P.fixB_zero, hk', List.take_of_length_le (by simp [P.fixes])] at this
          exact this)
        clear HO
        obtain ⟨r, cr, rfl, hr⟩ := RdP.of_row HO3.out
        have HR := hid hr; clear hr HO3
        go_wp2
        go_ret2
        exact ⟨r, cr, _, rfl, rfl, HR.out, HB2.out⟩
  · rw [if_pos h0]
    generalize P.wrong T l = e0 at *
    have ht : (e0 != 0) = true := by simpa using h0
    have HC := hid hcall; clear hcall h0 hT hx hm
    go_enter Try.func40, Try.ntmps40
    go_wp2_with (go_at_call 75; refine HC.out.mono ?_; rintro e w' ⟨rfl, hb⟩)
    go_ret2
    exact ⟨none, 0, [], rfl, rfl, fun k hk => absurd hk (Nat.not_lt_zero _), hb⟩

end Go.Proofs.Ytafpfcjemlonpaa
