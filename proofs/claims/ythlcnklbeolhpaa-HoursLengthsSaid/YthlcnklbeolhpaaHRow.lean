/- Package hours: rows of the call's own. -/
import Derived.Test.YthlcnklbeolhpaaHChk
import Derived.Deep.OwnRows
import Derived.Deep.Onto
namespace Go.Proofs.Ythlcnklbeolhpaa
open Go.RowKit

/-- A row of numbers of one's own. -/
def RowI (w : World) (lo : Nat) (v : Value) (xs : List Int) : Prop := w.ownsRow lo 3 1 v xs.length (xs.map (Value.int .i64))
theorem RowI.rd {w : World} {lo : Nat} {v : Value} {xs : List Int} (h : RowI w lo v xs) : ∃ a cap, v = .slice a xs.length cap ∧ RdI w a xs := by
  rcases h.2 with ⟨rfl, h2⟩ | ⟨g, cap, cur, rfl, _⟩
  · exact ⟨none, 0, by rw [h2], fun k hk => by omega⟩
  · refine ⟨_, cap, rfl, fun k hk => ⟨g, 0, rfl, ?_⟩⟩
    have := World.ownsRow.cellAt h k (by omega)
    rw [Nat.zero_add, this]
    simp [hk]
theorem RowI.rdI {w : World} {lo n c : Nat} {a : Option Addr} {xs : List Int} (h : RowI w lo (.slice a n c) xs) : RdI w a xs := by
  obtain ⟨x, y, e, q⟩ := h.rd
  simp only [Value.slice.injEq] at e
  obtain ⟨rfl, _, _⟩ := e
  exact q
theorem RowI.kept {w w' : World} {lo : Nat} {v : Value} {xs : List Int} {row : Option Nat} (h : RowI w lo v xs) (hg : w.grownBy w' row) (hne : v.ownBlock = none ∨ v.ownBlock ≠ row) : RowI w' lo v xs := World.ownsRow.kept h hg hne
theorem grown_set {w : World} (g o : Nat) (u : Value) : w.grownBy (w.setCell ⟨g, o, none⟩ u) (some g) :=
  ⟨rfl, rfl, rfl, by simp [World.setCell], fun k _ hk => Below.heap_setCell _ _ _ _ (fun e => hk (by rw [e]))⟩
theorem grown_below {w w' : World} (h : Below w.heap.size w w') : w.grownBy w' none := ⟨h.os, h.tape, h.output, h.size, fun k hk _ => h.block k hk⟩
theorem RowI.stays {w w' : World} {lo : Nat} {v : Value} {xs : List Int} (h : RowI w lo v xs) (hb : Below w.heap.size w w') : RowI w' lo v xs := h.kept (grown_below hb) (Classical.em _)
theorem RowI.mono {w : World} {lo lo' : Nat} {v : Value} {xs : List Int} (h : RowI w lo v xs) (hb : lo' ≤ lo) : RowI w lo' v xs :=
  ⟨h.1, h.2.imp id fun ⟨g, cap, cur, e, hg, r⟩ => ⟨g, cap, cur, e, Nat.le_trans hb hg, r⟩⟩
theorem RowI.nil (w : World) (lo : Nat) : RowI w lo (.slice none 0 0) [] := World.ownsRow_nil _ _ _ _
theorem RowI.off {w : World} {lo : Nat} {v : Value} {xs : List Int} (h : RowI w lo v xs) {g : Nat} (hg : g < lo) (o : Nat) (u : Value) : RowI (w.setCell ⟨g, o, none⟩ u) lo v xs :=
  h.kept (grown_set _ _ _) (by
    cases hq : v.ownBlock with
    | none => exact .inl rfl
    | some q =>
      refine .inr fun e => ?_
      have := (World.ownsRow.lt h q hq).1
      have := Option.some.inj e
      omega)
/-- A number appended. -/
theorem RowI.push {w' : World} {lo : Nat} {v' : Value} {xs : List Int} {x : Int} (h : w'.ownsRow lo 3 1 v' (xs.length + 1) (xs.map (Value.int .i64) ++ [.int .i64 x])) : RowI w' lo v' (xs ++ [x]) := by
  unfold RowI
  rw [List.length_append, List.map_append]
  exact h
theorem H.cols_take {T : List (List Int)} (j : Nat) : (List.range (j + 1)).map (H.col T) = (List.range j).map (H.col T) ++ [H.col T j] := by
  rw [List.range_succ, List.map_append]; rfl
theorem H.rows_take {T : List (List Int)} {k : Nat} (h : k < T.length) : H.rows (T.take (k + 1)) = H.rows (T.take k) ++ [H.sum T[k]] := by
  unfold H.rows
  rw [List.take_succ_eq_append_getElem h, List.map_append]; rfl
/-- Two rows, returned. -/
def H.TwoE (R C : List Int) (w : World) (e : Ending) (w' : World) : Prop := ∃ a1 c1 a2 c2, e = .returned (.tuple #[.slice a1 R.length c1, .slice a2 C.length c2]) ∧ RdI w' a1 R ∧ RdI w' a2 C ∧ Below w.heap.size w w'
/-- Two rows and an error, returned. -/
def H.Two3 (R C : List Int) (err : Int) (w : World) (e : Ending) (w' : World) : Prop := ∃ a1 c1 a2 c2, e = .returned (.tuple #[.slice a1 R.length c1, .slice a2 C.length c2, .int .i64 err]) ∧ RdI w' a1 R ∧ RdI w' a2 C ∧ Below w.heap.size w w'

set_option maxHeartbeats 4000000 in
set_option maxRecDepth 100000 in
theorem sumsOf_any (a : Option Addr) (c : Nat) (T : List (List Int)) (w : World) (hok : H.Ok T) (hx : RdM w a T) :
    Calls Try.prog 54 #[.slice a T.length c] w (H.TwoE (H.rows T) (H.cols T) w) := by
  obtain ⟨i0, hi, hz0, hz1, hz2⟩ := info_parts (show (Try.prog.info? 3).map (fun i => (i.zero, i.size, i.bytes)) = some (some (.int .i64 0), 1, 8) by kernel_rfl)
  have h6 := hok.m6
  have h1 := hok.m1
  have n6 := hok.n6
  have HX := hid hx
  have HWD := hid (H.wid_eq (T := T) (by omega))
  have HRS := hid (fun k (h : k < T.length) r c (W : World) (hr : RdI W r T[k]) => rowSum_any r c T[k] W (by rw [hok.row _ (List.getElem_mem h)]; omega) (hok.hrs _ (List.getElem_mem h)) hr)
  have HCS := hid (fun j (hj : j < H.wid T) W (hr : RdM W a T) => columnSum_any a c j T W hok hj hr)
  have HRT : Hid (∀ k (h : k < T.length), H.rows (T.take (k + 1)) = H.rows (T.take k) ++ [H.sum T[k]]) := hid (fun k h => H.rows_take h)
  have HRL : Hid (∀ k, (H.rows (T.take k)).length ≤ 6) := hid (fun k => by unfold H.rows; rw [List.length_map, List.length_take]; omega)
  have HCT := hid (H.cols_take (T := T))
  have HCE : Hid (H.cols T = (List.range (H.wid T)).map (H.col T)) := hid rfl
  have HRE : Hid (H.rows (T.take T.length) = H.rows T) := hid (by rw [List.take_length])
  clear hx hok
  go_enter Try.func54, Try.ntmps54
  go_wp2
  go_loopw [2, 9] (fun v i wr => ∃ k : Nat, k ≤ T.length ∧ i = .int .i64 k ∧ RowI wr w.heap.size v (H.rows (T.take k)) ∧ Below w.heap.size w wr) (fun _ i _ => T.length - (intOf i).toNat)
  case atStart => exact ⟨0, Nat.zero_le _, rfl, RowI.nil _ _, Below.refl _ _⟩
  case round =>
    obtain ⟨k, hk, rfl, hrow, hb⟩ := hrel
    have HROW := hid hrow
    have HB := hid hb
    have hxr := HX.out.stays hb
    clear hrow hb
    by_cases hlt : k < T.length
    · obtain ⟨b, off, r, cr, rfl, hc, hr⟩ := hxr k hlt
      have HR1 := hid (HRS.out k hlt r cr wr hr)
      have HE := hid (HRT.out k hlt)
      have HLN := hid (HRL.out k)
      clear hr hxr
      generalize T[k].length = nr at *
      generalize H.sum T[k] = s at *
      have hix : (0 : Int) ≤ (k : Int) ∧ (k : Int) < (T.length : Int) := by omega
      generalize H.rows (T.take k) = F at *
      have HM1 : Hid (F.length + 1 ≤ maxLen) := hid (by have := HLN.out; unfold maxLen; omega)
      have HM2 : Hid ((F.length + 1) * 8 ≤ 140737488355328) := hid (by have := HLN.out; omega)
      go_wp2_with fail
      refine HR1.out.mono ?_
      rintro e w' ⟨rfl, rfl⟩
      go_wp2_with (at_builtin; refine wpList_append_own _ rfl _ _ 27 rfl w.heap.size 3 i0 (.int .i64 0) 1 8 Try.underlying27 hi hz0 hz1 hz2 rfl (by decide) _ _ _ rfl (World.ownsRow.alloc HROW.out _) ⟨wr.heap.size, 0, none⟩ 1 1 [.int .i64 s] rfl rfl ?c1 ?c2 HM1.out HM2.out ?c5 ?_)
      case c1 =>
        intro i u hi
        match i, hi with
        | 0, hi => simp at hi; subst hi; rw [show Addr.add ⟨wr.heap.size, 0, none⟩ 0 = ⟨wr.heap.size, 0, none⟩ from rfl, World.cell?_alloc_at _ _ _ _ rfl]; rfl
      case c2 => intro u hu; simp at hu; subst hu; rfl
      case c5 => exact Nat.le_trans HB.out.size (by simp)
      intro v' w9 hown' hgrow _
      have HB9 := hid (Below.grown (HB.out.alloc HB.out.size (.cells #[.int .i64 s] 3)) hgrow (by simp; have := HB.out.size; omega) (fun q hq => (World.ownsRow.lt HROW.out q hq).1))
      have HO9 := hid (RowI.push hown')
      clear hown' hgrow
      go_wp2
      go_roundw
      case rel => exact ⟨k + 1, by omega, by go_num, by rw [HE.out]; exact HO9.out, HB9.out⟩
      case measure => simp [intOf]; omega
    · have hke : k = T.length := by omega
      subst hke
      rw [HRE.out] at HROW
      have h01 : 0 < T.length := by omega
      obtain ⟨b, off, r, cr, rfl, q0, _⟩ := hxr 0 h01
      rw [← HWD.out] at q0
      simp only [Nat.add_zero] at q0
      clear HRS HRT HRL HRE hxr
      obtain ⟨a9, c9, rfl, _⟩ := HROW.out.rd
      generalize hwr : wr = w2 at *
      clear hwr
      go_wp2
      clear q0
      go_loopw [3, 23] (fun v i wr => ∃ j : Nat, j ≤ H.wid T ∧ i = .int .i64 j ∧ RowI wr w2.heap.size v ((List.range j).map (H.col T)) ∧ Below w2.heap.size w2 wr) (fun _ i _ => H.wid T - (intOf i).toNat)
      case atStart => exact ⟨0, Nat.zero_le _, rfl, RowI.nil _ _, Below.refl _ _⟩
      case round =>
        obtain ⟨j, hj, rfl, hrow, hb⟩ := hrel
        have HRW := hid hrow
        have HBW := hid hb
        clear hrow hb
        by_cases hjl : j < H.wid T
        · have HC1 := hid (HCS.out j hjl wr ((HX.out.stays HB.out).stays HBW.out))
          have HE := hid (HCT.out j)
          have HLN : Hid (((List.range j).map (H.col T)).length ≤ 6) := hid (by rw [List.length_map, List.length_range]; omega)
          generalize (List.range j).map (H.col T) = F at *
          generalize H.col T j = s at *
          have HM1 : Hid (F.length + 1 ≤ maxLen) := hid (by have := HLN.out; unfold maxLen; omega)
          have HM2 : Hid ((F.length + 1) * 8 ≤ 140737488355328) := hid (by have := HLN.out; omega)
          go_wp2_with fail
          refine HC1.out.mono ?_
          rintro e w3 ⟨rfl, hb⟩
          have HB3 := hid (HBW.out.trans (hb.mono HBW.out.size))
          have HRW3 := hid (HRW.out.stays hb)
          clear hb
          go_wp2_with (at_builtin; refine wpList_append_own _ rfl _ _ 27 rfl w2.heap.size 3 i0 (.int .i64 0) 1 8 Try.underlying27 hi hz0 hz1 hz2 rfl (by decide) _ _ _ rfl (World.ownsRow.alloc HRW3.out _) ⟨w3.heap.size, 0, none⟩ 1 1 [.int .i64 s] rfl rfl ?d1 ?d2 HM1.out HM2.out ?d5 ?_)
          case d1 =>
            intro i u hi
            match i, hi with
            | 0, hi => simp at hi; subst hi; rw [show Addr.add ⟨w3.heap.size, 0, none⟩ 0 = ⟨w3.heap.size, 0, none⟩ from rfl, World.cell?_alloc_at _ _ _ _ rfl]; rfl
          case d2 => intro u hu; simp at hu; subst hu; rfl
          case d5 => exact Nat.le_trans HB3.out.size (by simp)
          intro v' w9 hown' hgrow _
          have HB9 := hid (Below.grown (HB3.out.alloc HB3.out.size (.cells #[.int .i64 s] 3)) hgrow (by simp; have := HB3.out.size; omega) (fun q hq => (World.ownsRow.lt HRW3.out q hq).1))
          have HO9 := hid (RowI.push hown')
          clear hown' hgrow
          go_wp2
          go_roundw
          case rel => exact ⟨j + 1, by omega, by go_num, by rw [HE.out]; exact HO9.out, HB9.out⟩
          case measure => simp [intOf]; omega
        · have hje : j = H.wid T := by omega
          subst hje
          rw [← HCE.out] at HRW
          obtain ⟨a8, c8, rfl, _⟩ := HRW.out.rd
          have HR9 := hid ((HROW.out.stays HBW.out).rdI)
          have HR8 := hid HRW.out.rdI
          have HBE := hid (HB.out.trans (HBW.out.mono HB.out.size))
          go_wp2
          go_ret2
          exact ⟨_, _, _, _, rfl, HR9.out, HR8.out, HBE.out⟩
set_option maxHeartbeats 400000 in
theorem sums_any (a : Option Addr) (c : Nat) (T : List (List Int)) (w : World) (hm : T.length ≤ maxLen) (hl : ∀ i (h : i < T.length), T[i].length ≤ maxLen) (hx : RdM w a T) :
    Calls Try.prog 17 #[.slice a T.length c] w (H.Two3 (if H.chk T = 0 then H.rows T else []) (if H.chk T = 0 then H.cols T else []) (H.chk T) w) := by
  have HC := hid (check_any a c T w hm hl hx)
  by_cases h : H.chk T = 0
  · rw [if_pos h, if_pos h]
    have HS := hid (sumsOf_any a c T w (H.chk_ok h) hx)
    rw [h] at HC ⊢
    clear h hm hl hx
    go_enter Try.func17, Try.ntmps17
    go_wp2_with fail
    refine HC.out.mono ?_
    rintro e w' ⟨rfl, rfl⟩
    go_wp2_with fail
    refine HS.out.mono ?_
    rintro e w' ⟨a1, c1, a2, c2, rfl, h1, h2, hb⟩
    have H1 := hid h1
    have H2 := hid h2
    have HB := hid hb
    clear h1 h2 hb
    go_wp2
    go_ret3
    exact ⟨_, _, _, _, rfl, H1.out, H2.out, HB.out⟩
  · rw [if_neg h, if_neg h]
    have hne : (H.chk T != 0) = true := by simpa using h
    generalize H.chk T = ec at *
    clear h hx
    go_enter Try.func17, Try.ntmps17
    go_wp2_with fail
    refine HC.out.mono ?_
    rintro e w' ⟨rfl, rfl⟩
    go_wp2
    go_ret3
    exact ⟨none, 0, none, 0, rfl, RdI.nil _ _, RdI.nil _ _, Below.refl _ _⟩
end Go.Proofs.Ythlcnklbeolhpaa
