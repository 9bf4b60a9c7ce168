/- The walks of the document's own answers for Blind and Twins. -/
import Derived.Test.YtafpfcjemlonpaaSpots
import Derived.Test.YtafpfcjemlonpaaTwins
import Derived.Test.YtafpfcjemlonpaaRefChk
namespace Go.Proofs.Ytafpfcjemlonpaa
open Go.RowKit

set_option maxHeartbeats 8000000 in
set_option maxRecDepth 100000 in
theorem refSpots_blind (ad : Option Addr) (c : Nat) (T : List (List Int)) (w : World) (hT : RdM w ad T) (ht : Tab T) :
    Calls Try.prog 62 #[.slice ad T.length c, .bool false] w
      fun e w' => ∃ r cr, e = .returned (.slice r (P.spS (P.blindAt T) T.length T.length).length cr) ∧ RdT w' r (P.spS (P.blindAt T) T.length T.length) ∧ Below w.heap.size w w' := by
  have h10 := ht.hi
  obtain ⟨pr, hpr⟩ : ∃ pr, pr = P.blindAt T := ⟨_, rfl⟩
  rw [← hpr]
  have HPR : Hid (∀ s a b, pr s a b = (P.at T (P.at T s a) b == P.at T (P.at T s b) a)) := hid (fun s a b => by rw [hpr]; rfl)
  have HT := hid hT
  have HQ := hid ht.sq
  clear hpr hT ht
  obtain ⟨i0, hi, hz0, hz1, hz2⟩ := info_parts (show (Try.prog.info? 89).map (fun i => (i.zero, i.size, i.bytes)) = some (some (.agg #[.int .i64 0, .int .i64 0, .int .i64 0]), 3, 24) by kernel_rfl)
  go_enter Try.func62, Try.ntmps62
  go_wp2
  go_loopw [5, 6] (fun v i wr => ∃ s : Nat, s ≤ T.length ∧ i = .int .i64 s ∧ wr.ownsRow w.heap.size 89 3 v (P.spS pr T.length s).length (tripleCells (P.spS pr T.length s)) ∧ (P.spS pr T.length s).length ≤ 100 * s ∧ Below w.heap.size w wr) (fun _ i _ => T.length - (intOf i).toNat)
  case atStart => exact ⟨0, Nat.zero_le _, rfl, World.ownsRow_nil _ _ _ _, Nat.zero_le _, Below.refl _ _⟩
  case round =>
    obtain ⟨s, hs, rfl, hown, hlen, hb⟩ := hrel
    have HO := hid hown; clear hown
    have HB1 := hid hb; clear hb
    by_cases hsl : s < T.length
    · go_wp2
      obtain ⟨wo, rfl⟩ : ∃ wo : World, wo = wr := ⟨_, rfl⟩
      go_loopw [5, 7] (fun v i wr => ∃ a : Nat, a ≤ T.length ∧ i = .int .i64 a ∧ wr.ownsRow w.heap.size 89 3 v (P.spS pr T.length s ++ P.spA pr T.length s a).length (tripleCells (P.spS pr T.length s ++ P.spA pr T.length s a)) ∧ (P.spS pr T.length s ++ P.spA pr T.length s a).length ≤ 100 * s + 10 * a ∧ Below w.heap.size w wr) (fun _ i _ => T.length - (intOf i).toNat)
      case atStart =>
        refine ⟨0, Nat.zero_le _, rfl, ?_, ?_, HB1.out⟩
        · rw [show P.spA pr T.length s 0 = [] from rfl, List.append_nil]; exact HO.out
        · rw [show P.spA pr T.length s 0 = [] from rfl, List.append_nil]; omega
      case round =>
        obtain ⟨a, ha, rfl, hown, hlen2, hb⟩ := hrel
        have HO2 := hid hown; clear hown
        have HB2 := hid hb; clear hb
        by_cases hal : a < T.length
        · go_wp2
          obtain ⟨wp, rfl⟩ : ∃ wp : World, wp = wr := ⟨_, rfl⟩
          go_loopw [5, 8] (fun v i wr => ∃ b : Nat, b ≤ T.length ∧ a < b ∧ i = .int .i64 b ∧ wr.ownsRow w.heap.size 89 3 v (P.spS pr T.length s ++ P.spA pr T.length s a ++ P.spK pr s a b).length (tripleCells (P.spS pr T.length s ++ P.spA pr T.length s a ++ P.spK pr s a b)) ∧ (P.spS pr T.length s ++ P.spA pr T.length s a ++ P.spK pr s a b).length ≤ 100 * s + 10 * a + b ∧ Below w.heap.size w wr) (fun _ i _ => T.length - (intOf i).toNat)
          case atStart =>
            refine ⟨a + 1, by omega, by omega, by go_num, ?_, ?_, HB2.out⟩
            · rw [P.spK_zero, List.append_nil]; exact HO2.out
            · rw [P.spK_zero, List.append_nil]; omega
          case round =>
            obtain ⟨b, hbn, hab, rfl, hown, hlen3, hb⟩ := hrel
            have HB3 := hid hb
            by_cases hbl : b < T.length
            · have hT3 := HT.out.stays hb
              have HO3 := hid hown
              have hp := HQ.out.at_lt hsl hal
              have hr := HQ.out.at_lt hsl hbl
              obtain ⟨b0, o0, b1, o1, c1, rfl, r1, k1⟩ := hT3.row HQ.out hsl
              obtain ⟨b0', o0', b2, o2, c2, he, r2, k2⟩ := hT3.row HQ.out hp
              simp only [Option.some.injEq, Addr.mk.injEq, and_true] at he
              obtain ⟨rfl, rfl⟩ := he
              obtain ⟨b0', o0', b3, o3, c3, he, r3, k3⟩ := hT3.row HQ.out hr
              simp only [Option.some.injEq, Addr.mk.injEq, and_true] at he
              obtain ⟨rfl, rfl⟩ := he
              have x1 := k1 a hal
              have x2 := k1 b hbl
              have x3 := k2 b hbl
              have x4 := k3 a hal
              have x5 := k2 a hal
              have x6 := k3 b hbl
              have hpe := HPR.out s a b
              have hk := P.spK_succ pr s a b hab
              clear k1 k2 k3 hT3 hown hb
              generalize P.at T (P.at T s a) b = xb at *
              generalize P.at T (P.at T s b) a = yb at *
              generalize P.at T (P.at T s a) a = xa at *
              generalize P.at T (P.at T s b) b = ya at *
              generalize P.at T s a = p at *
              generalize P.at T s b = q at *
              have HPE := hid hpe
              have HK := hid hk
              have sa : (0 : Int) ≤ (s : Int) ∧ (s : Int) < (T.length : Int) := by omega
              have aa : (0 : Int) ≤ (a : Int) ∧ (a : Int) < (T.length : Int) := by omega
              have ba : (0 : Int) ≤ (b : Int) ∧ (b : Int) < (T.length : Int) := by omega
              have pa : (0 : Int) ≤ (p : Int) ∧ (p : Int) < (T.length : Int) := by omega
              have qa : (0 : Int) ≤ (q : Int) ∧ (q : Int) < (T.length : Int) := by omega
              clear hpe hk
              by_cases he : xb = yb
              · have t1 : ((xb : Int) == (yb : Int)) = true := by rw [beq_iff_eq]; omega
                have H2 : Hid (P.spK pr s a (b + 1) = P.spK pr s a b ++ [(s, a, b)]) := hid (by rw [HK.out, if_pos]; rw [HPE.out, beq_iff_eq]; exact he)
                clear he
                go_wp2
                go_quiet (fail)
                have HO4 := hid (fun (q : Nat) (o : Obj) => ownsRow_stays (HO3.out.alloc o) (below_drewN (Below.refl (wr.alloc o).heap.size (wr.alloc o)) q))
                have HB4 := hid (fun (q : Nat) (o : Obj) => below_drewN (HB3.out.alloc HB3.out.size o) q)
                go_wp2_with (at_builtin; refine wpList_append_own _ rfl _ _ 34 rfl w.heap.size 89 i0 (.agg #[.int .i64 0, .int .i64 0, .int .i64 0]) 3 24 Try.underlying34 hi hz0 hz1 hz2 rfl (by decide) _ _ _ rfl (HO4.out _ _) ⟨wr.heap.size, 0, none⟩ 1 1 [.int .i64 (s : Nat), .int .i64 (a : Nat), .int .i64 (b : Nat)] rfl rfl ?c1 ?c2 ?c3 ?c4 ?c5 ?_)
                case c1 =>
                  intro j u hj
                  match j, hj with
                  | 0, hj => simp at hj; subst hj; exact (World.cell?_alloc_at _ _ _ 0 rfl).trans rfl
                  | 1, hj => simp at hj; subst hj; exact (World.cell?_alloc_at _ _ _ 1 rfl).trans rfl
                  | 2, hj => simp at hj; subst hj; exact (World.cell?_alloc_at _ _ _ 2 rfl).trans rfl
                case c2 => intro u hu; simp at hu; rcases hu with rfl | rfl | rfl <;> rfl
                case c3 => unfold maxLen; omega
                case c4 => omega
                case c5 => have := HB3.out.size; simp; omega
                intro v' w3 hown' hgrow _
                have HB5 := hid ((HB4.out _ _).grown hgrow (by have := HB3.out.size; simp; omega) (fun q hq => (World.ownsRow.lt HO3.out q hq).1))
                have HO5 := hid hown'
                clear hown' hgrow
                go_wp2
                go_roundw
                case rel => exact ⟨b + 1, by omega, by omega, by go_num, by rw [H2.out, ← List.append_assoc, tripleCells_snoc, List.length_append]; simpa [List.append_assoc, Nat.add_assoc] using HO5.out, by rw [H2.out, ← List.append_assoc, List.length_append]; simp only [List.length_cons, List.length_nil]; omega, HB5.out⟩
                case measure => simp [intOf]; omega
              · have t1 : ((xb : Int) == (yb : Int)) = false := by rw [beq_eq_false_iff_ne]; omega
                have H2 : Hid (P.spK pr s a (b + 1) = P.spK pr s a b) := hid (by rw [HK.out, if_neg, List.append_nil]; rw [HPE.out, beq_iff_eq]; exact he)
                clear he
                go_wp2
                go_quiet (fail)
                go_wp2
                go_roundw
                case rel => exact ⟨b + 1, by omega, by omega, by go_num, by rw [H2.out]; exact ownsRow_stays HO3.out (below_drewN (Below.refl _ _) _), by rw [H2.out]; omega, below_drewN HB3.out _⟩
                case measure => simp [intOf]; omega
            · have hbn' : b = T.length := by omega
              have HO3 : Hid (wr.ownsRow w.heap.size 89 3 u5 (P.spS pr T.length s ++ P.spA pr T.length s (a + 1)).length (tripleCells (P.spS pr T.length s ++ P.spA pr T.length s (a + 1)))) := hid (by
                rw [P.spA_succ, ← List.append_assoc, ← hbn']
                rw [← hbn'] at hown
                exact hown)
              have hlen4 : (P.spS pr T.length s ++ P.spA pr T.length s (a + 1)).length ≤ 100 * s + 10 * (a + 1) := by
                rw [P.spA_succ, ← List.append_assoc]
                rw [hbn'] at hlen3
                omega
              clear hown hb
              go_wp2
              go_roundw
              case rel => exact ⟨a + 1, by omega, by go_num, HO3.out, hlen4, HB3.out⟩
              case measure => simp [intOf]; omega
        · have han : a = T.length := by omega
          have HO3 : Hid (wr.ownsRow w.heap.size 89 3 u5 (P.spS pr T.length (s + 1)).length (tripleCells (P.spS pr T.length (s + 1)))) := hid (by
            have := HO2.out
            rw [han] at this
            rw [P.spS_succ]
            exact this)
          have hlen4 : (P.spS pr T.length (s + 1)).length ≤ 100 * (s + 1) := by
            rw [P.spS_succ]
            rw [han] at hlen2
            omega
          clear HO2
          go_wp2
          go_roundw
          case rel => exact ⟨s + 1, by omega, by go_num, HO3.out, hlen4, HB2.out⟩
          case measure => simp [intOf]; omega
    · have hsn : s = T.length := by omega
      have HO2 : Hid (wr.ownsRow w.heap.size 89 3 u5 (P.spS pr T.length T.length).length (tripleCells (P.spS pr T.length T.length))) := hid (by
        have := HO.out
        rw [hsn] at this
        exact this)
      clear HO hlen
      obtain ⟨r, cr, rfl, hr⟩ := RdT.of_row HO2.out
      have HR := hid hr; clear hr HO2
      go_wp2
      go_ret
      exact ⟨r, cr, rfl, HR.out, HB1.out⟩

set_option maxHeartbeats 1000000 in
theorem refBlind_any (ad : Option Addr) (c : Nat) (T : List (List Int)) (w : World) (hT : RdM w ad T) :
    Calls Try.prog 24 #[.slice ad T.length c] w
      fun e w' => ∃ r cr, e = .returned (.tuple #[.slice r (P.blind T).length cr, .int .i64 (P.check T)]) ∧ RdT w' r (P.blind T) ∧ Below w.heap.size w w' := by
  have hc := refCheck_any ad c T _ hT
  unfold P.blind
  by_cases h0 : P.check T = 0
  · have hs := fun w' (hb : Below w.heap.size w w') => refSpots_blind ad c T w' (hT.stays hb) (tab_of_check h0)
    rw [h0] at hc ⊢
    rw [if_neg (by simp)]
    generalize P.spS (P.blindAt T) T.length T.length = V at *
    have HC := hid hc
    have HS := hid hs
    clear hc hs hT h0
    go_enter Try.func24, Try.ntmps24
    go_wp2_with fail
    refine HC.out.mono ?_
    rintro e w1 ⟨rfl, hb1⟩
    have HB := hid hb1
    have HS1 := hid (HS.out w1 hb1)
    clear hb1
    go_wp2_with fail
    refine HS1.out.mono ?_
    rintro e w2 ⟨r, cr, rfl, hr, hb2⟩
    have HR := hid hr; clear hr
    have HB2 := hid (HB.out.trans (hb2.mono HB.out.size)); clear hb2
    go_wp2
    go_ret2
    exact ⟨r, cr, rfl, HR.out, HB2.out⟩
  · rw [if_pos h0]
    generalize P.check T = e0 at *
    have ht : (e0 != 0) = true := by simpa using h0
    have HC := hid hc
    clear hc hT h0
    go_enter Try.func24, Try.ntmps24
    go_wp2_with (go_at_call 30; refine HC.out.mono ?_; rintro e w2 ⟨rfl, hb2⟩)
    go_ret2
    exact ⟨none, 0, rfl, fun k hk => absurd hk (Nat.not_lt_zero _), hb2⟩

end Go.Proofs.Ytafpfcjemlonpaa
