/- The walks of the document's own answers for Restore, Fixes and Swaps. -/
import Derived.Test.YtafpfcjemlonpaaRefCod
namespace Go.Proofs.Ytafpfcjemlonpaa
open Go.RowKit

set_option maxHeartbeats 1000000 in
set_option maxRecDepth 100000 in
theorem with_any (a : Option Addr) (c n : Nat) (xs : List Int) (i : Nat) (d : Int) (w : World) (hn : xs.length = n) (hi : i < n) (hbig : n ≤ 100) (hx : RdI w a xs) :
    Calls Try.prog 73 #[.slice a n c, .int .i64 i, .int .i64 d] w fun e w' => ∃ g cap, e = .returned (.slice (some ⟨g, 0, none⟩) n cap) ∧ RdI w' (some ⟨g, 0, none⟩) (xs.set i d) ∧ Below w.heap.size w w' := by
  subst hn
  obtain ⟨i0, hi0, hz0, hz1, hz2⟩ := info_parts (show (Try.prog.info? 3).map (fun i => (i.zero, i.size, i.bytes)) = some (some (.int .i64 0), 1, 8) by kernel_rfl)
  obtain ⟨b, off, rfl, _⟩ := hx 0 (by omega)
  have A := hid hx
  clear hx
  go_enter Try.func73, Try.ntmps73
  go_wp2_with (at_builtin; refine wpList_append_own _ rfl _ _ 41 rfl w.heap.size 3 i0 (.int .i64 0) 1 8 Try.underlying41 hi0 hz0 hz1 hz2 rfl (by decide) _ _ _ rfl (World.ownsRow_made w #[] 0 (Nat.le_refl _) (Nat.zero_le _) rfl) ⟨b, off, none⟩ xs.length c (xs.map (Value.int .i64)) rfl ?qc1 ?qc2 ?qc3 ?qc4 ?qc5 ?qc6 ?_)
  case qc1 => simp
  case qc2 =>
    intro j u hj
    have hjn : j < xs.length := by
      have := (List.getElem?_eq_some_iff.1 hj).1
      simpa using this
    obtain ⟨b', off', he, hc⟩ := A.out j hjn
    simp only [Option.some.injEq, Addr.mk.injEq, and_true] at he
    obtain ⟨rfl, rfl⟩ := he
    rw [Addr.add_lit]
    refine Lib.cell?_alloc_some _ ?_
    rw [hc]
    simpa [hjn] using hj
  case qc3 => intro u hu; obtain ⟨x, _, rfl⟩ := List.mem_map.1 hu; rfl
  case qc4 => unfold maxLen; omega
  case qc5 => omega
  case qc6 => simp
  intro v' w1 hown hgrow hnil
  have hown2 : w1.ownsRow w.heap.size 3 1 v' xs.length (xs.map (Value.int .i64)) := by simpa using hown
  obtain ⟨g, cap, rfl, ho⟩ := OwnI.of_row hown2 (by omega)
  have HO := hid ho
  have HB := hid (((Below.refl _ w).alloc (Nat.le_refl _) _).grown hgrow (by simp) (by intro k hk; simp [Value.ownBlock] at hk; omega))
  obtain ⟨g', o', he, hcell⟩ := ho.rd i hi
  simp only [Option.some.injEq, Addr.mk.injEq, and_true] at he
  obtain ⟨rfl, rfl⟩ := he
  rw [Nat.zero_add] at hcell
  generalize xs[i] = old at hcell
  have hfr := World.ownsRow.frozenAt ho i
  have i1 : (0 : Int) ≤ (i : Int) ∧ (i : Int) < (xs.length : Int) := by omega
  clear hgrow ho hown hown2 hnil
  go_wp2
  go_ret
  exact ⟨g, cap, rfl, (HO.out.set i d).rd, HB.out.setCell (p := ⟨g, i, none⟩) HO.out.base.1 _⟩

set_option maxHeartbeats 2000000 in
theorem refRestore_any (a ad : Option Addr) (c cd : Nat) (T : List (List Int)) (l : List Int) (i : Int) (w : World) (hm : l.length ≤ maxLen) (hT : RdM w a T) (hx : RdI w ad l) :
    Calls Try.prog 36 #[.slice a T.length c, .slice ad l.length cd, .int .i64 i] w
      fun e w' => e = .returned (.tuple #[.int .i64 (P.restore T l i).1, .int .i64 (P.restore T l i).2]) ∧ Below w.heap.size w w' := by
  have hcall := refCoded_any a ad c cd T l w hm hT hx
  unfold P.restore
  by_cases h0 : P.checkDigits T l 2 = 0
  · obtain ⟨ht, hl2, h12, hd⟩ := digits_ok h0
    rw [h0] at hcall
    rw [if_neg (by simp [h0])]
    have HC := hid hcall; clear hcall
    by_cases h1 : i < 0 ∨ (l.length : Int) ≤ i
    · rw [if_pos h1]
      have HI := hid (fun w => is_no (n := i) (lo := 0) (hi := (l.length : Int) - 1) (by omega) w)
      clear ht hd hT hx hm h0 h1
      go_enter Try.func36, Try.ntmps36
      go_wp2_with fail
      refine HC.out.mono ?_
      rintro e w' ⟨rfl, hb⟩
      have HB := hid hb; clear hb
      go_wp2_with (go_at_call 57; refine (HI.out _).mono ?_; rintro e w2 ⟨rfl, rfl⟩)
      go_ret2
      exact ⟨rfl, HB.out⟩
    rw [if_neg h1]
    obtain ⟨k, rfl⟩ := Int.eq_ofNat_of_zero_le (show 0 ≤ i by omega)
    rw [Int.toNat_natCast]
    have hkl : k < l.length := by omega
    have HI := hid (fun w => is_yes (n := (k : Int)) (lo := 0) (hi := (l.length : Int) - 1) (by omega) w)
    obtain ⟨f1, f2, f3⟩ := ht.fixAt l hd k hkl
    have h10 := ht.hi
    have HW := hid (fun w' (hb : Below w.heap.size w w') (d : Nat) => with_any ad cd l.length l k (d : Int) w' rfl hkl (by omega) (hx.stays hb))
    have HS := hid (fun w' (hb : Below w.heap.size w w') (d : Nat) (hdn : d < T.length) g cap (hr : RdI w' (some ⟨g, 0, none⟩) (l.set k (d : Int))) => refState_any a (some ⟨g, 0, none⟩) c cap l.length T (l.set k (d : Int)) w' (by simp) hm (hT.stays hb) ht.sq (by have := ht.lo; omega) hr (hd.set k hdn))
    generalize P.fixAt T l k = d0 at *
    have F2 := hid f2
    have F3 := hid f3
    clear ht hd hT hx hm h0 h1 f2 f3
    go_enter Try.func36, Try.ntmps36
    go_wp2_with fail
    refine HC.out.mono ?_
    rintro e w' ⟨rfl, hb⟩
    have HB := hid hb; clear hb
    go_wp2_with (go_at_call 57; refine (HI.out _).mono ?_; rintro e w2 ⟨rfl, rfl⟩)
    go_loopw [9] (fun x wr => ∃ d : Nat, d ≤ d0 ∧ x = .int .i64 d ∧ Below w.heap.size w wr) (fun x _ => d0 - (intOf x).toNat)
    case atStart => exact ⟨0, Nat.zero_le _, rfl, HB.out⟩
    case round =>
      obtain ⟨d, hd, rfl, hb⟩ := hrel
      have HB1 := hid hb
      have HW1 := hid (HW.out wr hb d)
      clear hb
      by_cases he : d = d0
      · subst he
        go_wp2_with fail
        refine HW1.out.mono ?_
        rintro e w2 ⟨g, cap, rfl, hr, hb2⟩
        have HB2 := hid (HB1.out.trans (hb2.mono HB1.out.size))
        have hst := HS.out w2 HB2.out d f1 g cap hr
        rw [F2.out] at hst
        have HST := hid hst
        clear hb2 hr hst
        go_wp2_with (go_at_call 69; refine HST.out.mono ?_; rintro e w3 ⟨rfl, hb3⟩)
        go_ret2
        exact ⟨rfl, HB2.out.trans (hb3.mono HB2.out.size)⟩
      · go_wp2_with fail
        refine HW1.out.mono ?_
        rintro e w2 ⟨g, cap, rfl, hr, hb2⟩
        have HB2 := hid (HB1.out.trans (hb2.mono HB1.out.size))
        have hst := HS.out w2 HB2.out d (by omega) g cap hr
        have hne := F3.out d (by omega)
        generalize P.after T (l.set k (d : Int)) = s at hst hne
        have ht : ((s : Int) != 0) = true := by simp; omega
        have HST := hid hst
        clear hb2 hr hst hne
        go_wp2_with fail
        refine HST.out.mono ?_
        rintro e w3 ⟨rfl, hb3⟩
        have HB3 := hid (HB2.out.trans (hb3.mono HB2.out.size))
        clear hb3
        go_wp2
        go_roundw
        case rel => exact ⟨d + 1, by omega, by go_num, HB3.out⟩
        case measure => simp [intOf]; omega
  · rw [if_pos h0]
    generalize P.checkDigits T l 2 = e0 at *
    have ht : (e0 == 0) = false := by rw [beq_eq_false_iff_ne]; exact h0
    have ht2 : (e0 != 0) = true := by simpa using h0
    have HC := hid hcall; clear hcall h0 hT hx hm
    go_enter Try.func36, Try.ntmps36
    go_wp2_with (go_at_call 72; refine HC.out.mono ?_; rintro e w' ⟨rfl, hb⟩)
    go_ret2
    exact ⟨rfl, hb⟩

end Go.Proofs.Ytafpfcjemlonpaa
