/- The walk of Twins. -/
import Derived.Test.YtlpdlnefgjmgmaaSpots
namespace Go.Proofs.Ytlpdlnefgjmgmaa
open Go.RowKit

set_option maxHeartbeats 2000000 in
set_option maxRecDepth 100000 in
theorem twins1_any (B : Nat) (ad : Option Addr) (c : Nat) (T : List (List Int)) (s a b : Nat) (w : World) (hbox : w.cell? ⟨B, 0, none⟩ = some (.slice ad T.length c)) (hT : RdM w ad T) (hq : Sq T) (hs : s < T.length) (ha : a < T.length) (hb : b < T.length) :
    Calls Try.prog 26 #[.agg #[.int .i64 s, .int .i64 a, .int .i64 b], .pointer (some ⟨B, 0, none⟩)] w fun e w' => e = .returned (.bool (P.twinAt T s a b)) ∧ Below w.heap.size w w' := by
  have hb1 : Below w.heap.size w (w.alloc (.cells #[.int .i64 s, .int .i64 a, .int .i64 b] 33)) := (Below.refl _ _).alloc (Nat.le_refl _) _
  have hT1 := hT.stays hb1
  have hbox1 := cell_stays hb1 (Nat.le_refl _) hbox
  have hp := hq.at_lt hs ha
  have hr := hq.at_lt hs hb
  obtain ⟨b0, o0, b1, o1, c1, rfl, r1, k1⟩ := hT1.row hq hs
  obtain ⟨b0', o0', b2, o2, c2, he, r2, k2⟩ := hT1.row hq hp
  simp only [Option.some.injEq, Addr.mk.injEq, and_true] at he
  obtain ⟨rfl, rfl⟩ := he
  obtain ⟨b0', o0', b3, o3, c3, he, r3, k3⟩ := hT1.row hq hr
  simp only [Option.some.injEq, Addr.mk.injEq, and_true] at he
  obtain ⟨rfl, rfl⟩ := he
  have x1 := k1 a ha
  have x2 := k1 b hb
  have x3 := k2 a ha
  have x4 := k3 b hb
  unfold P.twinAt
  generalize P.at T (P.at T s a) a = x at *
  generalize P.at T (P.at T s b) b = y at *
  generalize P.at T s a = p at *
  generalize P.at T s b = q at *
  have HB := hid hb1
  have sa : (s : Int) < (T.length : Int) := by omega
  have aa : (a : Int) < (T.length : Int) := by omega
  have ba : (b : Int) < (T.length : Int) := by omega
  have pa : (p : Int) < (T.length : Int) := by omega
  have qa : (q : Int) < (T.length : Int) := by omega
  clear k1 k2 k3 hT hT1 hbox hb1 hq
  have both : (x == y) = true ∧ ((x : Int) == (y : Int)) = true ∨ (x == y) = false ∧ ((x : Int) == (y : Int)) = false := by
    by_cases h : x = y
    · exact Or.inl ⟨by rw [beq_iff_eq]; exact h, by rw [beq_iff_eq]; omega⟩
    · exact Or.inr ⟨by rw [beq_eq_false_iff_ne]; exact h, by rw [beq_eq_false_iff_ne]; omega⟩
  rcases both with ⟨e1, e2⟩ | ⟨e1, e2⟩
  all_goals
    rw [e1]
    clear e1
    go_enter Try.func26, Try.ntmps26
    go_wp2
    go_quiet (fail)
    go_wp2
    go_ret
    exact ⟨rfl, below_drewN HB.out _⟩

set_option maxHeartbeats 4000000 in
set_option maxRecDepth 100000 in
/-- All spots of a table. -/
theorem spots_twins (B : Nat) (ad : Option Addr) (c : Nat) (T : List (List Int)) (w : World) (hbox : w.cell? ⟨B, 0, none⟩ = some (.slice ad T.length c)) (hT : RdM w ad T) (ht : Tab T) (h0 : P.check T = 0) :
    Calls Try.prog 24 #[.slice ad T.length c, .func (.func 26) #[] #[.pointer (some ⟨B, 0, none⟩)]] w
      fun e w' => ∃ r cr xs, e = .returned (.tuple #[.slice r xs.length cr, .int .i64 0]) ∧ xs = P.spS (P.twinAt T) T.length T.length ∧ RdT w' r xs ∧ Below w.heap.size w w' := by
  have hcall := check_any ad c T w hT
  rw [h0] at hcall
  have HC := hid hcall; clear hcall
  have hcl : ∀ w', Below w.heap.size w w' → ∀ s a b : Nat, s < T.length → a < T.length → b < T.length →
      Calls Try.prog 26 #[.agg #[.int .i64 s, .int .i64 a, .int .i64 b], .pointer (some ⟨B, 0, none⟩)] w' fun e w2 => e = .returned (.bool (P.twinAt T s a b)) ∧ Below w'.heap.size w' w2 :=
    fun w' hb s a b hs ha hb' => twins1_any B ad c T s a b w' (cell_stays hb (Nat.le_refl _) hbox) (hT.stays hb) ht.sq hs ha hb'
  have h10 := ht.hi
  generalize P.twinAt T = pr at *
  have HCL := hid hcl; clear hcl hbox hT ht h0
  generalize T.length = n at *
  obtain ⟨i0, hi, hz0, hz1, hz2⟩ := info_parts (show (Try.prog.info? 33).map (fun i => (i.zero, i.size, i.bytes)) = some (some (.agg #[.int .i64 0, .int .i64 0, .int .i64 0]), 3, 24) by kernel_rfl)
  go_enter Try.func24, Try.ntmps24
  go_wp2_with fail
  refine HC.out.mono ?_
  rintro e w1 ⟨rfl, hb⟩
  have HB := hid hb; clear hb
  go_wp2
  go_loopw [7, 19] (fun v i wr => ∃ s : Nat, s ≤ n ∧ i = .int .i64 s ∧ wr.ownsRow w.heap.size 33 3 v (P.spS pr n s).length (tripleCells (P.spS pr n s)) ∧ (P.spS pr n s).length ≤ 100 * s ∧ Below w.heap.size w wr) (fun _ i _ => n - (intOf i).toNat)
  case atStart => exact ⟨0, Nat.zero_le _, rfl, World.ownsRow_nil _ _ _ _, Nat.zero_le _, HB.out⟩
  case round =>
    obtain ⟨s, hs, rfl, hown, hlen, hb⟩ := hrel
    have HO := hid hown; clear hown
    have HB1 := hid hb; clear hb
    by_cases hsl : s < n
    · go_wp2
      obtain ⟨wo, rfl⟩ : ∃ wo : World, wo = wr := ⟨_, rfl⟩
      go_loopw [7, 24] (fun v i wr => ∃ a : Nat, a ≤ n ∧ i = .int .i64 a ∧ wr.ownsRow w.heap.size 33 3 v (P.spS pr n s ++ P.spA pr n s a).length (tripleCells (P.spS pr n s ++ P.spA pr n s a)) ∧ (P.spS pr n s ++ P.spA pr n s a).length ≤ 100 * s + 10 * a ∧ Below w.heap.size w wr) (fun _ i _ => n - (intOf i).toNat)
      case atStart =>
        refine ⟨0, Nat.zero_le _, rfl, ?_, ?_, HB1.out⟩
        · rw [show P.spA pr n s 0 = [] from rfl, List.append_nil]; exact HO.out
        · rw [show P.spA pr n s 0 = [] from rfl, List.append_nil]; omega
      case round =>
        obtain ⟨a, ha, rfl, hown, hlen2, hb⟩ := hrel
        have HO2 := hid hown; clear hown
        have HB2 := hid hb; clear hb
        by_cases hal : a < n
        · go_wp2
          obtain ⟨wp, rfl⟩ : ∃ wp : World, wp = wr := ⟨_, rfl⟩
          go_loopw [7, 10] (fun v i wr => ∃ b : Nat, b ≤ n ∧ a < b ∧ i = .int .i64 b ∧ wr.ownsRow w.heap.size 33 3 v (P.spS pr n s ++ P.spA pr n s a ++ P.spK pr s a b).length (tripleCells (P.spS pr n s ++ P.spA pr n s a ++ P.spK pr s a b)) ∧ (P.spS pr n s ++ P.spA pr n s a ++ P.spK pr s a b).length ≤ 100 * s + 10 * a + b ∧ Below w.heap.size w wr) (fun _ i _ => n - (intOf i).toNat)
          case atStart =>
            refine ⟨a + 1, by omega, by omega, by go_num, ?_, ?_, HB2.out⟩
            · rw [P.spK_zero, List.append_nil]; exact HO2.out
            · rw [P.spK_zero, List.append_nil]; omega
          case round =>
            obtain ⟨b, hbn, hab, rfl, hown, hlen3, hb⟩ := hrel
            have hbl0 : Hid (Below w.heap.size w wr) := hid hb
            by_cases hbl : b < n
            · have hb1 := hb.alloc hb.size (.cells #[.int .i64 s, .int .i64 a, .int .i64 b] 33)
              have hc1 := HCL.out _ hb1 s a b hsl hal hbl
              have hk := P.spK_succ pr s a b hab
              have hcells : ∀ w', Below (wr.alloc (.cells #[.int .i64 s, .int .i64 a, .int .i64 b] 33)).heap.size (wr.alloc (.cells #[.int .i64 s, .int .i64 a, .int .i64 b] 33)) w' →
                  (w'.cell? ⟨wr.heap.size, 0, none⟩ = some (.int .i64 s) ∧ w'.cell? ⟨wr.heap.size, 1, none⟩ = some (.int .i64 a) ∧ w'.cell? ⟨wr.heap.size, 2, none⟩ = some (.int .i64 b)) ∧ Below w.heap.size w w' ∧ w'.ownsRow w.heap.size 33 3 _ _ _ := fun w' h =>
                ⟨⟨cell_stays h (Nat.le_refl _) (by rw [World.cell?_alloc_at _ _ _ _ rfl]; rfl), cell_stays h (Nat.le_refl _) (by rw [World.cell?_alloc_at _ _ _ _ rfl]; rfl), cell_stays h (Nat.le_refl _) (by rw [World.cell?_alloc_at _ _ _ _ rfl]; rfl)⟩,
                  hb1.trans (h.mono hb1.size), ownsRow_stays (hown.alloc _) h⟩
              have HST := hid hcells
              clear hcells hb1 hb hown
              cases hp : pr s a b
              · rw [hp] at hc1
                rw [if_neg (by rw [hp]; simp), List.append_nil] at hk
                have H1 := hid hc1
                have H2 := hid hk
                clear hc1 hk hp
                go_wp2_with fail
                refine H1.out.mono ?_
                rintro e w2 ⟨rfl, hb2⟩
                obtain ⟨_, hb3, hown2⟩ := HST.out w2 hb2
                have HB3 := hid hb3
                have HO3 := hid hown2
                clear hb2 hb3 hown2
                go_wp2
                go_roundw
                case rel => exact ⟨b + 1, by omega, by omega, by go_num, by rw [H2.out]; exact HO3.out, by rw [H2.out]; omega, HB3.out⟩
                case measure => simp [intOf]; omega
              · rw [hp] at hc1
                rw [if_pos hp] at hk
                have H1 := hid hc1
                have H2 := hid hk
                clear hc1 hk hp
                go_wp2_with fail
                refine H1.out.mono ?_
                rintro e w2 ⟨rfl, hb2⟩
                obtain ⟨⟨x1, x2, x3⟩, hb3, hown2⟩ := HST.out w2 hb2
                have HB3 := hid hb3
                have HO3 := hid hown2
                clear hb2 hb3 hown2
                go_wp2_with (at_builtin; refine wpList_append_own _ rfl _ _ 27 rfl w.heap.size 33 i0 (.agg #[.int .i64 0, .int .i64 0, .int .i64 0]) 3 24 Try.underlying27 hi hz0 hz1 hz2 rfl (by decide) _ _ _ rfl (HO3.out.alloc _) ⟨w2.heap.size, 0, none⟩ 1 1 [.int .i64 (s : Nat), .int .i64 (a : Nat), .int .i64 (b : Nat)] rfl rfl ?c1 ?c2 ?c3 ?c4 ?c5 ?_)
                case c1 =>
                  intro j u hj
                  match j, hj with
                  | 0, hj => simp at hj; subst hj; simp [Addr.add]
                  | 1, hj => simp at hj; subst hj; simp [Addr.add]
                  | 2, hj => simp at hj; subst hj; simp [Addr.add]
                case c2 => intro u hu; simp at hu; rcases hu with rfl | rfl | rfl <;> rfl
                case c3 => unfold maxLen; omega
                case c4 => omega
                case c5 => have := HB3.out.size; simp; omega
                intro v' w3 hown' hgrow _
                have HB4 := hid ((HB3.out.alloc HB3.out.size _).grown hgrow (by have := HB3.out.size; simp; omega) (fun q hq => (World.ownsRow.lt HO3.out q hq).1))
                have HO4 := hid hown'
                clear hown' hgrow
                go_wp2
                go_roundw
                case rel => exact ⟨b + 1, by omega, by omega, by go_num, by rw [H2.out, ← List.append_assoc, tripleCells_snoc, List.length_append]; simpa [List.append_assoc, Nat.add_assoc] using HO4.out, by rw [H2.out, ← List.append_assoc, List.length_append]; simp only [List.length_cons, List.length_nil]; omega, HB4.out⟩
                case measure => simp [intOf]; omega
            · have hbn' : b = n := by omega
              subst hbn'
              have HO3 := hid hown
              clear hown hb
              go_wp2
              go_roundw
              case rel =>
                refine ⟨a + 1, by omega, by go_num, ?_, ?_, hbl0.out⟩
                · rw [P.spA_succ, ← List.append_assoc]; exact HO3.out
                · rw [P.spA_succ, ← List.append_assoc]; omega
              case measure => simp [intOf]; omega
        · have han : a = n := by omega
          subst han
          go_wp2
          go_roundw
          case rel =>
            refine ⟨s + 1, by omega, by go_num, ?_, ?_, HB2.out⟩
            · rw [P.spS_succ]; exact HO2.out
            · rw [P.spS_succ]; omega
          case measure => simp [intOf]; omega
    · have hsn : s = n := by omega
      subst hsn
      obtain ⟨r, cr, rfl, hr⟩ := RdT.of_row HO.out
      have HR := hid hr; clear hr HO
      go_wp2
      go_ret2
      exact ⟨r, cr, _, rfl, rfl, HR.out, HB1.out⟩

def P.twins (T : List (List Int)) : List (Nat × Nat × Nat) := if P.check T ≠ 0 then [] else P.spS (P.twinAt T) T.length T.length

set_option maxHeartbeats 1000000 in
theorem twins_any (ad : Option Addr) (c : Nat) (T : List (List Int)) (w : World) (hT : RdM w ad T) :
    Calls Try.prog 10 #[.slice ad T.length c] w
      fun e w' => ∃ r cr xs, e = .returned (.tuple #[.slice r xs.length cr, .int .i64 (P.check T)]) ∧ xs = P.twins T ∧ RdT w' r xs ∧ Below w.heap.size w w' := by
  have hmf : ∀ (fn : Fn) (first cap : Array Value) (w : World), (Instr.makeFunc fn first cap).run Try.prog w = .ok (.func fn first cap) w := fun _ _ _ _ => rfl
  have hb1 : Below w.heap.size w (w.alloc (.cells #[.slice ad T.length c] 25)) := (Below.refl _ _).alloc (Nat.le_refl _) _
  have hbox : (w.alloc (.cells #[.slice ad T.length c] 25)).cell? ⟨w.heap.size, 0, none⟩ = some (.slice ad T.length c) := by
    rw [World.cell?_alloc_at _ _ _ _ rfl]; rfl
  unfold P.twins
  by_cases h0 : P.check T = 0
  · have hc := spots_twins w.heap.size ad c T _ hbox (hT.stays hb1) (tab_of_check h0) h0
    rw [h0, if_neg (by simp)]
    have HC := hid hc
    have HB := hid hb1
    clear hc hb1 hT h0 hbox
    go_enter Try.func10, Try.ntmps10
    go_wp2_with fail
    refine HC.out.mono ?_
    rintro e w2 ⟨r, cr, xs, rfl, hx, hr, hb2⟩
    have HX := hid hx; clear hx
    have HR := hid hr; clear hr
    have HB2 := hid (HB.out.trans (hb2.mono HB.out.size)); clear hb2
    go_wp2
    go_ret2
    exact ⟨r, cr, xs, rfl, HX.out, HR.out, HB2.out⟩
  · rw [if_pos h0]
    have hc := check_any ad c T _ (hT.stays hb1)
    generalize P.check T = e0 at *
    have ht : (e0 != 0) = true := by simpa using h0
    have HC := hid hc
    have HB := hid hb1
    clear hc hb1 hT h0 hbox
    go_enter Try.func10, Try.ntmps10
    go_wp2_with (first | (go_at_call 41; refine HC.out.mono ?_; rintro e w2 ⟨rfl, hb2⟩) | go_in)
    go_ret2
    exact ⟨none, 0, [], rfl, rfl, fun k hk => absurd hk (Nat.not_lt_zero _), HB.out.trans (hb2.mono HB.out.size)⟩

end Go.Proofs.Ytlpdlnefgjmgmaa
