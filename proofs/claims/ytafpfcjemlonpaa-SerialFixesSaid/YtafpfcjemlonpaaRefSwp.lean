/- The walk of the document's own answer for Swaps. -/
import Derived.Test.YtafpfcjemlonpaaRefFix
import Derived.IntWalk
namespace Go.Proofs.Ytafpfcjemlonpaa
open Go.RowKit

/-- A copy with another number at an index. -/
def Copied (w : World) (n : Nat) (xs : List Int) (e : Ending) (w' : World) : Prop := ∃ g cap, e = .returned (.slice (some ⟨g, 0, none⟩) n cap) ∧ RdI w' (some ⟨g, 0, none⟩) xs ∧ Below w.heap.size w w'

theorem with_copied (a : Option Addr) (c n : Nat) (xs : List Int) (i : Nat) (j d : Int) (w : World) (hj : j = i) (hn : xs.length = n) (hi : i < n) (hbig : n ≤ 100) (hx : RdI w a xs) :
    Calls Try.prog 73 #[.slice a n c, .int .i64 j, .int .i64 d] w (Copied w n (xs.set i d)) := by
  subst hj
  exact with_any a c n xs i d w hn hi hbig hx

set_option maxHeartbeats 4000000 in
set_option maxRecDepth 100000 in
theorem refSwaps_any (a ac : Option Addr) (c cc : Nat) (T : List (List Int)) (l : List Int) (w : World) (hm : l.length ≤ maxLen) (hT : RdM w a T) (hx : RdI w ac l) :
    Calls Try.prog 42 #[.slice a T.length c, .slice ac l.length cc] w
      fun e w' => ∃ r cr xs, e = .returned (.tuple #[.slice r xs.length cr, .int .i64 (P.wrong T l)]) ∧ (xs = if P.wrong T l ≠ 0 then [] else P.swaps T l (l.length - 1)) ∧ RdI w' r xs ∧ Below w.heap.size w w' := by
  have hcall := refWrong_any a ac c cc T l w hm hT hx
  by_cases h0 : P.wrong T l = 0
  · obtain ⟨ht, hl2, hl12, hd, _⟩ := wrong_ok h0
    rw [h0] at hcall ⊢
    have HC := hid hcall; clear hcall
    rw [if_neg (by simp)]
    have h10 := ht.hi
    have HW := hid (fun w' (hb : Below w.heap.size w w') (k : Nat) (d : Int) (hk : k < l.length) => with_copied ac cc l.length l k (k : Int) d w' rfl rfl hk (by omega) (hx.stays hb))
    have HW2 := hid (fun w' (k : Nat) (y : Int) (k2 : Int) (d : Int) (e : k2 = (k + 1 : Nat)) (hk : k + 1 < l.length) g cap (hr : RdI w' (some ⟨g, 0, none⟩) (l.set k y)) => with_copied (some ⟨g, 0, none⟩) cap l.length (l.set k y) (k + 1) k2 d w' e (by simp) hk (by omega) hr)
    have hdg : ∀ k, (hk : k + 1 < l.length) → Dg T.length ((l.set k l[k + 1]).set (k + 1) l[k]) := fun k hk j hj => by
      have h1 := hd k (by omega)
      have h2 := hd (k + 1) (by omega)
      rw [List.getElem_set]
      split
      · exact h1
      · rw [List.getElem_set]
        split
        · exact h2
        · exact hd j (by simpa using hj)
    have HS := hid (fun w' (hb : Below w.heap.size w w') (k : Nat) (hk : k + 1 < l.length) g cap (hr : RdI w' (some ⟨g, 0, none⟩) ((l.set k l[k + 1]).set (k + 1) l[k])) => refState_any a (some ⟨g, 0, none⟩) c cap l.length T ((l.set k l[k + 1]).set (k + 1) l[k]) w' (by simp) hm (hT.stays hb) ht.sq (by have := ht.lo; omega) hr (hdg k hk))
    have HSW : Hid (∀ k, (hk : k + 1 < l.length) → P.swap l k = (l.set k l[k + 1]).set (k + 1) l[k]) := hid (fun k hk => by
      simp only [P.swap, List.getD, List.getElem?_eq_getElem hk, List.getElem?_eq_getElem (show k < l.length by omega), Option.getD_some])
    have HX := hid hx
    obtain ⟨i0, hi, hz0, hz1, hz2⟩ := info_parts (show (Try.prog.info? 3).map (fun i => (i.zero, i.size, i.bytes)) = some (some (.int .i64 0), 1, 8) by kernel_rfl)
    clear ht hd hT hx hm h0 hdg
    go_enter Try.func42, Try.ntmps42
    go_wp2_with fail
    refine HC.out.mono ?_
    rintro e w1 ⟨rfl, hb⟩
    have HB := hid hb; clear hb
    go_wp2
    go_loopw [7, 8] (fun v i wr => ∃ k : Nat, k + 1 ≤ l.length ∧ i = .int .i64 k ∧ wr.ownsRow w.heap.size 3 1 v (P.swaps T l k).length ((P.swaps T l k).map (Value.int .i64)) ∧ Below w.heap.size w wr) (fun _ i _ => l.length - (intOf i).toNat)
    case atStart => exact ⟨0, by omega, rfl, World.ownsRow_nil _ _ _ _, HB.out⟩
    case round =>
      obtain ⟨k, hk, rfl, hown, hb⟩ := hrel
      have HO := hid hown; clear hown
      have hbc := hb
      have HB2 := hid hb; clear hb
      by_cases hlt : k + 1 < l.length
      · obtain ⟨b1, o1, he, c1⟩ := (HX.out.stays hbc) k (by omega)
        obtain ⟨b1', o1', rfl, c2⟩ := (HX.out.stays hbc) (k + 1) hlt
        simp only [Option.some.injEq, Addr.mk.injEq, and_true] at he
        obtain ⟨rfl, rfl⟩ := he
        have hs := P.swaps_succ T l k
        have hle := P.swaps_le T l k
        have hsw := HSW.out k hlt
        have hW1 := fun w' (h : Below w.heap.size w w') => HW.out w' h k l[k + 1] (by omega)
        have hW2 := fun w' (g cap : Nat) (hr : RdI w' (some ⟨g, 0, none⟩) (l.set k l[k + 1])) => HW2.out w' k l[k + 1] ((k : Int) + 1) l[k] (by omega) hlt g cap hr
        have hS3 := fun w' (h : Below w.heap.size w w') (g cap : Nat) (hr : RdI w' (some ⟨g, 0, none⟩) ((l.set k l[k + 1]).set (k + 1) l[k])) => HS.out w' h k hlt g cap hr
        rw [hsw] at hs
        generalize l[k] = x at *
        generalize l[k + 1] = y at *
        generalize P.after T ((l.set k y).set (k + 1) x) = st at *
        have HSS := hid hs
        have H1 := hid hW1
        have H2 := hid hW2
        have H3 := hid hS3
        have HK := hid (show ∀ w', Below wr.heap.size wr w' → w'.cell? ⟨b1', o1' + k, none⟩ = some (.int .i64 x) ∧ w'.cell? ⟨b1', o1' + (k + 1), none⟩ = some (.int .i64 y) from fun w' h => ⟨cell_stays h (Nat.le_refl _) c1, cell_stays h (Nat.le_refl _) c2⟩)
        have i1 : (0 : Int) ≤ (k : Int) ∧ (k : Int) < (l.length : Int) := by omega
        have i2 : (0 : Int) ≤ (k : Int) + 1 ∧ (k : Int) + 1 < (l.length : Int) := by omega
        clear hs hsw hW1 hW2 hS3 hbc
        have u1 : IntKind.i64.wrap ((k : Int) + 1) = (k : Int) + 1 := IntWalk.i64_in _ (by omega)
        have u2 : (0 : Int) ≤ (k : Int) + 1 := by omega
        have u3 : ((k : Int) + 1).toNat = k + 1 := by omega
        have both : st = 0 ∧ ((if st = 0 then [(k : Int)] else []) = [(k : Int)]) ∨ ((st : Int) == 0) = false ∧ ((if st = 0 then [(k : Int)] else []) = ([] : List Int)) := by
          by_cases hst : st = 0
          · exact Or.inl ⟨hst, by rw [if_pos hst]⟩
          · exact Or.inr ⟨by rw [beq_eq_false_iff_ne]; omega, by rw [if_neg hst]⟩
        rcases both with ⟨rfl, b2⟩ | ⟨b1, b2⟩
        · have HSN : Hid (P.swaps T l (k + 1) = P.swaps T l k ++ [(k : Int)]) := hid (by rw [HSS.out, b2])
          clear b2
          go_wp2
          go_region_held3 (fun w' => w'.cell? ⟨b1', o1' + k, none⟩ = some (.int .i64 x) ∧ w'.cell? ⟨b1', o1' + (k + 1), none⟩ = some (.int .i64 y)) (first | exact ⟨q1, q2⟩ | exact ⟨p1, p2⟩ | exact ⟨c1, c2⟩ | go_keep) (first | (go_at_call 73; (with_reducible refine (H1.out _ HB2.out.drew).mono ?_); rintro e w2 ⟨g, cap, rfl, hr, hb2⟩; have hbx : Below wr.heap.size wr w2 := (Below.refl wr.heap.size wr).drew.trans hb2; obtain ⟨p1, p2⟩ := HK.out w2 hbx; have HR2 := hid hr; have HX2 := hid hbx; clear hr hb2 hbx) | (go_at_call 73; (with_reducible refine (H2.out _ g cap HR2.out).mono ?_); rintro e w3 ⟨g3, cap3, rfl, hr3, hb3⟩; have hbx : Below wr.heap.size wr w3 := HX2.out.trans (hb3.mono HX2.out.size); obtain ⟨q1, q2⟩ := HK.out w3 hbx; have HR3 := hid hr3; have HX3 := hid hbx; clear hr3 hb3 hbx) | (go_at_call 69; (with_reducible refine (H3.out _ (HB2.out.trans (HX3.out.mono HB2.out.size)) g3 cap3 HR3.out).mono ?_); rintro e w4 ⟨rfl, hb4⟩; have hbx : Below wr.heap.size wr w4 := HX3.out.trans (hb4.mono HX3.out.size); obtain ⟨r1, r2⟩ := HK.out w4 hbx; have HX4 := hid hbx; clear hb4 hbx))
          have HO4 := hid (ownsRow_stays HO.out HX4.out)
          have HB5 := hid (HB2.out.trans (HX4.out.mono HB2.out.size))
          clear u1 u2 u3 r1 r2 q1 q2 p1 p2
          go_wp2_with (at_builtin; refine wpList_append_own _ rfl _ _ 41 rfl w.heap.size 3 i0 (.int .i64 0) 1 8 Try.underlying41 hi hz0 hz1 hz2 rfl (by decide) _ _ _ rfl (HO4.out.alloc _) ⟨w4.heap.size, 0, none⟩ 1 1 [.int .i64 (k : Int)] rfl rfl ?c1 ?c2 ?c3 ?c4 ?c5 ?_)
          case c1 =>
            intro j u hj
            match j, hj with
            | 0, hj => simp at hj; subst hj; simp [Addr.add]
          case c2 => intro u hu; simp at hu; subst hu; rfl
          case c3 => unfold maxLen; omega
          case c4 => omega
          case c5 => have := HB5.out.size; simp; omega
          intro v' w5 hown' hgrow _
          have HB6 := hid ((HB5.out.alloc HB5.out.size _).grown hgrow (by have := HB5.out.size; simp; omega) (fun q hq => (World.ownsRow.lt HO4.out q hq).1))
          have HO5 := hid hown'
          clear hown' hgrow
          go_wp2
          go_roundw
          case rel => exact ⟨k + 1, by omega, by go_num, by rw [HSN.out]; simpa using HO5.out, HB6.out⟩
          case measure => simp [intOf]; omega
        · have HSN : Hid (P.swaps T l (k + 1) = P.swaps T l k) := hid (by rw [HSS.out, b2, List.append_nil])
          clear b2
          go_wp2
          go_region_held3 (fun w' => w'.cell? ⟨b1', o1' + k, none⟩ = some (.int .i64 x) ∧ w'.cell? ⟨b1', o1' + (k + 1), none⟩ = some (.int .i64 y)) (first | exact ⟨q1, q2⟩ | exact ⟨p1, p2⟩ | exact ⟨c1, c2⟩ | go_keep) (first | (go_at_call 73; (with_reducible refine (H1.out _ HB2.out.drew).mono ?_); rintro e w2 ⟨g, cap, rfl, hr, hb2⟩; have hbx : Below wr.heap.size wr w2 := (Below.refl wr.heap.size wr).drew.trans hb2; obtain ⟨p1, p2⟩ := HK.out w2 hbx; have HR2 := hid hr; have HX2 := hid hbx; clear hr hb2 hbx) | (go_at_call 73; (with_reducible refine (H2.out _ g cap HR2.out).mono ?_); rintro e w3 ⟨g3, cap3, rfl, hr3, hb3⟩; have hbx : Below wr.heap.size wr w3 := HX2.out.trans (hb3.mono HX2.out.size); obtain ⟨q1, q2⟩ := HK.out w3 hbx; have HR3 := hid hr3; have HX3 := hid hbx; clear hr3 hb3 hbx) | (go_at_call 69; (with_reducible refine (H3.out _ (HB2.out.trans (HX3.out.mono HB2.out.size)) g3 cap3 HR3.out).mono ?_); rintro e w4 ⟨rfl, hb4⟩; have hbx : Below wr.heap.size wr w4 := HX3.out.trans (hb4.mono HX3.out.size); obtain ⟨r1, r2⟩ := HK.out w4 hbx; have HX4 := hid hbx; clear hb4 hbx))
          have HO4 := hid (ownsRow_stays HO.out HX4.out)
          have HB5 := hid (HB2.out.trans (HX4.out.mono HB2.out.size))
          clear u1 u2 u3 r1 r2 q1 q2 p1 p2
          go_wp2
          go_roundw
          case rel => exact ⟨k + 1, by omega, by go_num, by rw [HSN.out]; exact HO4.out, HB5.out⟩
          case measure => simp [intOf]; omega
      · have hk' : k = l.length - 1 := by omega
        obtain ⟨r, cr, rfl, hr⟩ := RdI.of_row HO.out
        rw [hk'] at hr
        have HR := hid hr; clear hr HO
        have HK : Hid ((P.swaps T l k).length = (P.swaps T l (l.length - 1)).length) := hid (by rw [hk'])
        clear hk' hbc
        go_wp2
        go_ret2
        exact ⟨r, cr, _, by rw [HK.out]; rfl, rfl, HR.out, HB2.out⟩
  · rw [if_pos h0]
    generalize P.wrong T l = e0 at *
    have ht : (e0 != 0) = true := by simpa using h0
    have HC := hid hcall; clear hcall h0 hT hx hm
    go_enter Try.func42, Try.ntmps42
    go_wp2_with (go_at_call 75; refine HC.out.mono ?_; rintro e w' ⟨rfl, hb⟩)
    go_ret2
    exact ⟨none, 0, [], rfl, rfl, fun k hk => absurd hk (Nat.not_lt_zero _), hb⟩

end Go.Proofs.Ytafpfcjemlonpaa
