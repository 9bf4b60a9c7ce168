/- The walk of the document's own answer for Line, and of the comparison of spots. -/
import Derived.Test.YtafpfcjemlonpaaLine
import Derived.Test.YtafpfcjemlonpaaCmp
import Derived.Test.YtafpfcjemlonpaaRefText
namespace Go.Proofs.Ytafpfcjemlonpaa
open Go.RowKit

set_option maxHeartbeats 400000 in
theorem common_any (a b : Nat) (w : World) (ha : a ≤ 1000) (hb : b ≤ 1000) :
    Calls Try.prog 59 #[.int .i64 a, .int .i64 b] w fun e w' => e = .returned (.int .i64 (Nat.gcd a b : Nat)) ∧ Below w.heap.size w w' := by
  go_enter Try.func59, Try.ntmps59
  go_wp2
  go_loopw [0, 1] (fun x y wr => ∃ c d : Nat, x = .int .i64 c ∧ y = .int .i64 d ∧ c ≤ 1000 ∧ d ≤ 1000 ∧ Nat.gcd c d = Nat.gcd a b ∧ Below w.heap.size w wr) (fun _ y _ => (intOf y).toNat)
  case atStart => exact ⟨a, b, rfl, rfl, ha, hb, rfl, Below.refl _ _⟩
  case round =>
    obtain ⟨c, d, rfl, rfl, hc, hd, hg, hbel⟩ := hrel
    have HG := hid hg; clear hg
    have HB := hid hbel; clear hbel
    by_cases h0 : d = 0
    · have hG2 : Hid (c = Nat.gcd a b) := by have := HG.out; subst h0; simpa [Hid] using this
      have hd0 : ¬ (0 : Int) < (d : Int) := by omega
      clear h0
      go_wp2
      go_ret
      exact ⟨ret_int (by rw [← hG2.out]), HB.out⟩
    · have hz2 : ¬ (d : Int) = 0 := by omega
      have hz3 : (1 : Int) ≤ d := by omega
      have hz4 : (0 : Int) < (d : Int) := by omega
      have hm : c % d < d := Nat.mod_lt _ (by omega)
      have HN : Hid ((c : Int) % d = ((c % d : Nat) : Int)) := hid (by simp)
      have HG2 : Hid (Nat.gcd d (c % d) = Nat.gcd a b) := hid (by rw [← HG.out, Nat.gcd_comm, ← Nat.gcd_rec, Nat.gcd_comm])
      clear h0
      go_wp2
      go_quiet (fail)
      go_wp2
      go_roundw
      case rel => exact ⟨d, c % d, rfl, by rw [HN.out], hd, by omega, HG2.out, below_drewN HB.out _⟩
      case measure => simp [intOf]; omega

/-- A block of one element type is no block of another one. -/
theorem own_ne {w : World} {base base' : Nat} {e1 e2 : TypeId} {s1 s2 g n1 c1 n2 : Nat} {v : Value} {xs ys : List Value} (h1 : w.ownsRow base e1 s1 (.slice (some ⟨g, 0, none⟩) n1 c1) n1 xs) (h2 : w.ownsRow base' e2 s2 v n2 ys) (he : e1 ≠ e2) : some g ≠ v.ownBlock := by
  rcases h2.2 with ⟨rfl, _⟩ | ⟨g', cap', cur', rfl, _, hg', _⟩
  · simp [Value.ownBlock]
  · intro heq
    simp only [Value.ownBlock, Option.some.injEq] at heq
    subst heq
    rcases h1.2 with ⟨h, _⟩ | ⟨g2, cap2, cur2, h, _, hg2, _⟩
    · simp at h
    · simp only [Value.slice.injEq, Option.some.injEq, Addr.mk.injEq, and_true, true_and] at h
      obtain ⟨rfl, _⟩ := h
      rw [hg'] at hg2
      simp only [Option.some.injEq, Obj.cells.injEq] at hg2
      exact he hg2.2.1.symm

/-- Slices of the call's own that hold these rows. -/
def Rows (w : World) (base : Nat) (T : List (List Int)) (vs : List Value) : Prop :=
  vs.length = T.length ∧ ∀ k (h : k < T.length), ∃ g c, vs[k]? = some (.slice (some ⟨g, 0, none⟩) T[k].length c) ∧ OwnI w base g c T[k]

theorem Rows.stays {w w' : World} {base : Nat} {T : List (List Int)} {vs : List Value} (h : Rows w base T vs) (hb : Below w.heap.size w w') : Rows w' base T vs :=
  ⟨h.1, fun k hk => by
    obtain ⟨g, c, h1, h2⟩ := h.2 k hk
    exact ⟨g, c, h1, ownsRow_stays h2 hb⟩⟩

theorem OwnI.mono {w : World} {base base' g c : Nat} {xs : List Int} (h : OwnI w base g c xs) (hb : base' ≤ base) : OwnI w base' g c xs := by
  obtain ⟨h1, h2⟩ := h
  refine ⟨h1, ?_⟩
  rcases h2 with h2 | ⟨g', cap, cur, r1, r2, r3⟩
  · exact Or.inl h2
  · exact Or.inr ⟨g', cap, cur, r1, by omega, r3⟩

/-- One row more is appended. -/
theorem Rows.snoc {w w' : World} {base g c n : Nat} {T : List (List Int)} {xs : List Int} {vs : List Value} {v : Value} (h : Rows w base T vs) (hx : OwnI w base g c xs) (ho : w.ownsRow base 41 1 v n vs) (hg : w.grownBy w' v.ownBlock) :
    Rows w' base (T ++ [xs]) (vs ++ [.slice (some ⟨g, 0, none⟩) xs.length c]) := by
  have keep : ∀ g c xs, OwnI w base g c xs → OwnI w' base g c xs := fun g c xs h => World.ownsRow.kept h hg (Or.inr (own_ne h ho (by decide)))
  refine ⟨by simp [h.1], fun k hk => ?_⟩
  by_cases hk2 : k < T.length
  · obtain ⟨g', c', h1, h2⟩ := h.2 k hk2
    refine ⟨g', c', ?_, ?_⟩
    · rw [List.getElem?_append_left (by rw [h.1]; exact hk2), h1]
      simp [hk2]
    · simp only [List.getElem_append, hk2, dif_pos]
      exact keep _ _ _ h2
  · have hk3 : k = T.length := by simp at hk; omega
    subst hk3
    refine ⟨g, c, ?_, ?_⟩
    · have e1 : (T ++ [xs])[T.length] = xs := by simp
      rw [e1, List.getElem?_append_right (by rw [h.1]; exact Nat.le_refl _), h.1, Nat.sub_self]
      rfl
    · simpa using keep _ _ _ hx

theorem Rows.rd {w : World} {base n : Nat} {T : List (List Int)} {vs : List Value} {v : Value} (h : Rows w base T vs) (ho : w.ownsRow base 41 1 v n vs) : ∃ a cap, v = .slice a T.length cap ∧ RdM w a T := by
  have hl : T.length = n := by have := ho.1; rw [h.1] at this; omega
  subst hl
  rcases ho.2 with ⟨rfl, h2⟩ | ⟨g, cap, cur, rfl, _⟩
  · exact ⟨none, 0, by rw [h2], fun k hk => by omega⟩
  · refine ⟨_, cap, rfl, fun k hk => ?_⟩
    obtain ⟨g', c', h1, h2⟩ := h.2 k hk
    refine ⟨g, 0, _, c', rfl, ?_, h2.rd⟩
    rw [Nat.zero_add, World.ownsRow.cellAt ho k (by omega), h1]

set_option maxHeartbeats 4000000 in
set_option maxRecDepth 100000 in
theorem refLine_good (n k : Nat) (w : World) (hn2 : 2 ≤ n) (hn : n ≤ 10) (hk1 : 1 ≤ k) (hk : k ≤ n - 1) (hg : Nat.gcd n k ≤ 1) :
    Calls Try.prog 22 #[.int .i64 n, .int .i64 k] w
      fun e w' => ∃ r cr, e = .returned (.tuple #[.slice r (P.lineT n k).length cr, .int .i64 0]) ∧ RdM w' r (P.lineT n k) ∧ Below w.heap.size w w' := by
  have HI1 := hid (fun w => is_yes (n := (n : Int)) (lo := 2) (hi := 10) (by omega) w)
  have HI2 := hid (fun w => is_yes (n := (k : Int)) (lo := 1) (hi := (n : Int) - 1) (by omega) w)
  have HC := hid (fun w => common_any n k w (by omega) (by omega))
  have hgi : ¬ (1 : Int) < ((Nat.gcd n k : Nat) : Int) := by omega
  generalize Nat.gcd n k = gd at *
  have hTs : ∀ s, s < n → (P.lineT n k).take (s + 1) = (P.lineT n k).take s ++ [P.lineRow n k s] := fun s hs => by
    unfold P.lineT; rw [range_map_take _ _ _ hs]
  have hRs : ∀ s d, d < n → (P.lineRow n k s).take (d + 1) = (P.lineRow n k s).take d ++ [(((k * s + d) % n : Nat) : Int)] := fun s d hd => by
    unfold P.lineRow; rw [range_map_take _ _ _ hd]
  have hRl : ∀ s, (P.lineRow n k s).length = n := fun s => by simp [P.lineRow]
  have hTl : (P.lineT n k).length = n := by simp [P.lineT]
  have HTS := hid hTs
  have HRS := hid hRs
  have HRL := hid hRl
  have HTL := hid hTl
  clear hTs hRs hRl hTl
  obtain ⟨i0, hi, hz0, hz1, hz2⟩ := info_parts (show (Try.prog.info? 3).map (fun i => (i.zero, i.size, i.bytes)) = some (some (.int .i64 0), 1, 8) by kernel_rfl)
  obtain ⟨j0, hj, hy0, hy1, hy2⟩ := info_parts (show (Try.prog.info? 41).map (fun i => (i.zero, i.size, i.bytes)) = some (some (.slice none 0 0), 1, 24) by kernel_rfl)
  go_enter Try.func22, Try.ntmps22
  go_wp2_with fail
  refine (HI1.out _).mono ?_
  rintro e w' ⟨rfl, rfl⟩
  go_wp2_with fail
  refine (HI2.out _).mono ?_
  rintro e w' ⟨rfl, rfl⟩
  go_wp2_with fail
  refine (HC.out _).mono ?_
  rintro e w1 ⟨rfl, hb⟩
  have HB := hid hb; clear hb
  go_wp2
  go_loopw [6, 7] (fun v i wr => ∃ (s : Nat) (vs : List Value), s ≤ n ∧ i = .int .i64 s ∧ wr.ownsRow w.heap.size 41 1 v s vs ∧ Rows wr w.heap.size ((P.lineT n k).take s) vs ∧ Below w.heap.size w wr) (fun _ i _ => n - (intOf i).toNat)
  case atStart => exact ⟨0, [], Nat.zero_le _, rfl, World.ownsRow_nil _ _ _ _, ⟨rfl, fun _ h => absurd h (Nat.not_lt_zero _)⟩, HB.out⟩
  case round =>
    obtain ⟨s, vs, hs, rfl, hown, hrows, hb⟩ := hrel
    have HO := hid hown
    have HR := hid hrows
    have HB1 := hid hb
    clear hown hrows hb
    by_cases hsl : s < n
    · go_wp2
      obtain ⟨wo, rfl⟩ : ∃ wo : World, wo = wr := ⟨_, rfl⟩
      have hp0 : (0 : Int) ≤ (k : Int) * (s : Int) := Int.mul_nonneg (by omega) (by omega)
      have hp1 : (k : Int) * (s : Int) ≤ 100 := by
        have : k * s ≤ 10 * 10 := Nat.mul_le_mul (by omega) (by omega)
        rw [← Int.natCast_mul]; omega
      have hnz : ¬ (n : Int) = 0 := by omega
      go_loopw [8, 9] (fun v i wr => ∃ d : Nat, d ≤ n ∧ i = .int .i64 d ∧ wr.ownsRow wo.heap.size 3 1 v d (((P.lineRow n k s).take d).map (Value.int .i64)) ∧ Below wo.heap.size wo wr) (fun _ i _ => n - (intOf i).toNat)
      case atStart => exact ⟨0, Nat.zero_le _, rfl, World.ownsRow_nil _ _ _ _, Below.refl _ _⟩
      case round =>
        obtain ⟨d, hd, rfl, hown, hb⟩ := hrel
        have HO2 := hid hown
        have HB2 := hid hb
        clear hown hb
        by_cases hdl : d < n
        · have HV : Hid (((k : Int) * (s : Int) + (d : Int)) % (n : Int) = (((k * s + d) % n : Nat) : Int)) := hid (by simp)
          have HN := hid (HRS.out s d hdl)
          go_wp2_with (at_builtin; refine wpList_append_own _ rfl _ _ 41 rfl wo.heap.size 3 i0 (.int .i64 0) 1 8 Try.underlying41 hi hz0 hz1 hz2 rfl (by decide) _ _ _ rfl (HO2.out.alloc _) ⟨wr.heap.size, 0, none⟩ 1 1 [.int .i64 (((k : Int) * (s : Int) + (d : Int)) % (n : Int))] rfl rfl ?c1 ?c2 ?c3 ?c4 ?c5 ?_)
          case c1 =>
            intro j u hj
            match j, hj with
            | 0, hj => simp at hj; subst hj; simp [Addr.add]
          case c2 => intro u hu; simp at hu; subst hu; rfl
          case c3 => unfold maxLen; omega
          case c4 => omega
          case c5 => have := HB2.out.size; simp; omega
          intro v' w5 hown' hgrow _
          have HB6 := hid ((HB2.out.alloc HB2.out.size _).grown hgrow (by have := HB2.out.size; simp; omega) (fun q hq => (World.ownsRow.lt HO2.out q hq).1))
          have HO5 := hid hown'
          clear hown' hgrow
          go_wp2
          go_roundw
          case rel => exact ⟨d + 1, by omega, by go_num, by rw [HN.out, List.map_append, ← HV.out, List.map_take]; exact HO5.out, HB6.out⟩
          case measure => simp [intOf]; omega
        · have hdn : d = n := by omega
          subst hdn
          have ho := HO2.out
          rw [List.take_of_length_le (by rw [HRL.out]; exact Nat.le_refl _)] at ho
          obtain ⟨g, cap, rfl, hx⟩ := OwnI.of_row ho (by rw [HRL.out]; omega)
          have hsz := HB1.out.size
          have HX := hid (hx.mono hsz)
          have HO3 := hid (ownsRow_stays HO.out HB2.out)
          have HR3 := hid (HR.out.stays HB2.out)
          have HB3 := hid (HB1.out.trans (HB2.out.mono hsz))
          have HN := hid (HTS.out s hsl)
          clear ho hx HO2
          go_wp2_with (at_builtin; refine wpList_append_own _ rfl _ _ 26 rfl w.heap.size 41 j0 (.slice none 0 0) 1 24 Try.underlying26 hj hy0 hy1 hy2 rfl (by decide) _ _ _ rfl (HO3.out.alloc _) ⟨wr.heap.size, 0, none⟩ 1 1 [.slice (some ⟨g, 0, none⟩) (P.lineRow d k s).length cap] rfl rfl ?e1 ?e2 ?e3 ?e4 ?e5 ?_)
          case e1 =>
            intro j u hj
            match j, hj with
            | 0, hj => simp at hj; subst hj; simp [Addr.add]
          case e2 => intro u hu; simp at hu; subst hu; rfl
          case e3 => unfold maxLen; omega
          case e4 => omega
          case e5 => have := HB3.out.size; simp; omega
          intro v' w5 hown' hgrow _
          have HB6 := hid ((HB3.out.alloc HB3.out.size _).grown hgrow (by have := HB3.out.size; simp; omega) (fun q hq => (World.ownsRow.lt HO3.out q hq).1))
          have HR5 := hid ((HR3.out.stays ((Below.refl _ wr).alloc (Nat.le_refl _) _)).snoc (ownsRow_stays HX.out ((Below.refl _ wr).alloc (Nat.le_refl _) _)) (HO3.out.alloc _) hgrow)
          have HO5 := hid hown'
          clear hown' hgrow
          go_wp2
          go_roundw
          case rel => exact ⟨s + 1, _, by omega, by go_num, HO5.out, by rw [HN.out]; exact HR5.out, HB6.out⟩
          case measure => simp [intOf]; omega
    · have hsn : s = n := by omega
      subst hsn
      have hr := HR.out
      rw [List.take_of_length_le (by rw [HTL.out]; exact Nat.le_refl _)] at hr
      obtain ⟨r, cr, rfl, hm⟩ := hr.rd HO.out
      have HM := hid hm
      clear hr hm
      go_wp2
      go_ret2
      exact ⟨r, cr, rfl, HM.out, HB1.out⟩

set_option maxHeartbeats 1000000 in
theorem refLine_any (base step : Int) (w : World) :
    Calls Try.prog 22 #[.int .i64 base, .int .i64 step] w
      fun e w' => ∃ r cr, e = .returned (.tuple #[.slice r (P.line base step).1.length cr, .int .i64 (P.line base step).2]) ∧ RdM w' r (P.line base step).1 ∧ Below w.heap.size w w' := by
  unfold P.line
  by_cases h : base < 2 ∨ 10 < base ∨ step < 1 ∨ base - 1 < step
  · rw [if_pos h]
    by_cases h1 : 2 ≤ base ∧ base ≤ 10
    · have HI1 := hid (fun w => is_yes h1 w)
      have HI2 := hid (fun w => is_no (n := step) (lo := 1) (hi := base - 1) (by omega) w)
      clear h
      go_enter Try.func22, Try.ntmps22
      go_wp2_with fail
      refine (HI1.out _).mono ?_
      rintro e w' ⟨rfl, rfl⟩
      go_wp2_with fail
      refine (HI2.out _).mono ?_
      rintro e w' ⟨rfl, rfl⟩
      go_wp2
      go_ret2
      exact ⟨none, 0, rfl, fun k hk => absurd hk (Nat.not_lt_zero _), Below.refl _ _⟩
    · have HI1 := hid (fun w => is_no h1 w)
      clear h
      go_enter Try.func22, Try.ntmps22
      go_wp2_with fail
      refine (HI1.out _).mono ?_
      rintro e w' ⟨rfl, rfl⟩
      go_wp2
      go_ret2
      exact ⟨none, 0, rfl, fun k hk => absurd hk (Nat.not_lt_zero _), Below.refl _ _⟩
  · rw [if_neg h]
    obtain ⟨n, rfl⟩ := Int.eq_ofNat_of_zero_le (show 0 ≤ base by omega)
    obtain ⟨k, rfl⟩ := Int.eq_ofNat_of_zero_le (show 0 ≤ step by omega)
    rw [Int.toNat_natCast, Int.toNat_natCast]
    by_cases hg : 1 < Nat.gcd n k
    · rw [if_pos hg]
      have HI1 := hid (fun w => is_yes (n := (n : Int)) (lo := 2) (hi := 10) (by omega) w)
      have HI2 := hid (fun w => is_yes (n := (k : Int)) (lo := 1) (hi := (n : Int) - 1) (by omega) w)
      have HC := hid (fun w => common_any n k w (by omega) (by omega))
      have hgi : (1 : Int) < ((Nat.gcd n k : Nat) : Int) := by omega
      have hn10 : (n : Int) ≤ 10 := by omega
      generalize Nat.gcd n k = gd at *
      clear h hg
      go_enter Try.func22, Try.ntmps22
      go_wp2_with fail
      refine (HI1.out _).mono ?_
      rintro e w' ⟨rfl, rfl⟩
      go_wp2_with fail
      refine (HI2.out _).mono ?_
      rintro e w' ⟨rfl, rfl⟩
      go_wp2_with fail
      refine (HC.out _).mono ?_
      rintro e w1 ⟨rfl, hb⟩
      go_wp2
      go_ret2
      exact ⟨none, 0, rfl, fun k hk => absurd hk (Nat.not_lt_zero _), hb⟩
    · rw [if_neg hg]
      exact refLine_good n k w (by omega) (by omega) (by omega) (by omega) (by omega)

set_option maxHeartbeats 1000000 in
theorem spots_eq (a b : Option Addr) (ca cb : Nat) (xs : List (Nat × Nat × Nat)) (w : World) (hm : xs.length ≤ maxLen) (ha : RdT w a xs) (hb : RdT w b xs) :
    Calls Try.prog 28 #[.slice a xs.length ca, .slice b xs.length cb] w fun e w' => e = .returned (.bool true) ∧ Below w.heap.size w w' := by
  unfold maxLen at hm
  have HA := hid ha
  have HB := hid hb
  clear ha hb
  have hne : ((xs.length : Int) != (xs.length : Int)) = false := by simp
  go_enter Try.func28, Try.ntmps28
  go_wp2
  go_loopw [5] (fun i wr => ∃ k : Nat, k ≤ xs.length ∧ i = .int .i64 k ∧ Quiet w wr) (fun i _ => xs.length - (intOf i).toNat)
  case atStart => exact ⟨0, Nat.zero_le _, rfl, 0, rfl⟩
  case round =>
    obtain ⟨k, hk, rfl, hq⟩ := hrel
    have HQ := hid hq
    have hbq := hq.below
    clear hq
    by_cases hlt : k < xs.length
    · obtain ⟨b1, o1, rfl, c1, d1, e1⟩ := (HA.out.stays hbq) k hlt
      obtain ⟨b2, o2, rfl, c2, d2, e2⟩ := (HB.out.stays hbq) k hlt
      generalize xs[k].1 = x at *
      generalize xs[k].2.1 = y at *
      generalize xs[k].2.2 = z at *
      have h1 : (0 : Int) ≤ (k : Int) ∧ (k : Int) < (xs.length : Int) := by omega
      clear hbq
      go_wp2
      go_quiet (fail)
      go_wp2
      go_roundw
      case rel => exact ⟨k + 1, by omega, by go_num, HQ.out.drewN _⟩
      case measure => simp [intOf]; omega
    · go_wp2
      go_ret
      exact ⟨rfl, HQ.out.below⟩

end Go.Proofs.Ytafpfcjemlonpaa
