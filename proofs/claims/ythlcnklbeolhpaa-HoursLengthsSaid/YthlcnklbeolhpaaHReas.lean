/- Package hours: the walk of reasonsOf. -/
import Derived.Test.YthlcnklbeolhpaaHBound
namespace Go.Proofs.Ythlcnklbeolhpaa
open Go.RowKit

abbrev Rs := Nat × Nat
/-- The slice with this address reads as these reasons. -/
def RdR (w : World) (a : Option Addr) (rs : List Rs) : Prop :=
  ∀ k (h : k < rs.length), ∃ b off, a = some ⟨b, off, none⟩ ∧ w.cell? ⟨b, off + k * 2, none⟩ = some (.int .i64 (rs[k].1 : Nat)) ∧ w.cell? ⟨b, off + k * 2 + 1, none⟩ = some (.int .i64 (rs[k].2 : Nat))
theorem RdR.stays {w w' : World} {a : Option Addr} {rs : List Rs} (h : RdR w a rs) (hb : Below w.heap.size w w') : RdR w' a rs := fun k hk => by
  obtain ⟨b, off, ha, h1, h2⟩ := h k hk
  exact ⟨b, off, ha, cell_stays hb (Nat.le_refl _) h1, cell_stays hb (Nat.le_refl _) h2⟩
/-- The cells of reasons. -/
def rsCells (rs : List Rs) : List Value := rs.flatMap fun b => [.int .i64 (b.1 : Nat), .int .i64 (b.2 : Nat)]
theorem rsCells_get : ∀ (rs : List Rs) (k : Nat) (h : k < rs.length), (rsCells rs)[k * 2]? = some (.int .i64 (rs[k].1 : Nat)) ∧ (rsCells rs)[k * 2 + 1]? = some (.int .i64 (rs[k].2 : Nat))
  | [], _, h => absurd h (Nat.not_lt_zero _)
  | _ :: _, 0, _ => ⟨rfl, rfl⟩
  | _ :: rs, k + 1, h => by
    have := rsCells_get rs k (by simpa using h)
    rw [Nat.succ_mul]
    exact this
theorem rsCells_snoc (rs : List Rs) (b : Rs) : rsCells (rs ++ [b]) = rsCells rs ++ [.int .i64 (b.1 : Nat), .int .i64 (b.2 : Nat)] := by simp [rsCells]
/-- Reasons in a row of one's own. -/
def RowR (w : World) (lo : Nat) (v : Value) (rs : List Rs) : Prop := w.ownsRow lo 24 2 v rs.length (rsCells rs)
theorem RowR.rd {w : World} {lo : Nat} {v : Value} {rs : List Rs} (h : RowR w lo v rs) : ∃ a cap, v = .slice a rs.length cap ∧ RdR w a rs := by
  rcases h.2 with ⟨rfl, h2⟩ | ⟨g, cap, cur, rfl, _⟩
  · exact ⟨none, 0, by rw [h2], fun k hk => by omega⟩
  · refine ⟨_, cap, rfl, fun k hk => ⟨g, 0, rfl, ?_, ?_⟩⟩
    · rw [World.ownsRow.cellAt h _ (by omega)]; simpa using (rsCells_get rs k hk).1
    · rw [World.ownsRow.cellAt h _ (by omega)]; simpa using (rsCells_get rs k hk).2
theorem RowR.nil (w : World) (lo : Nat) : RowR w lo (.slice none 0 0) [] := World.ownsRow_nil _ _ _ _
theorem RowR.stays {w w' : World} {lo : Nat} {v : Value} {rs : List Rs} (h : RowR w lo v rs) (hb : Below w.heap.size w w') : RowR w' lo v rs := World.ownsRow.kept h (grown_below hb) (Classical.em _)
theorem RowR.push {w' : World} {lo : Nat} {v' : Value} {rs : List Rs} {x y : Nat} (h : w'.ownsRow lo 24 2 v' (rs.length + 1) (rsCells rs ++ [.int .i64 (x : Nat), .int .i64 (y : Nat)])) : RowR w' lo v' (rs ++ [(x, y)]) := by
  unfold RowR
  rw [List.length_append, rsCells_snoc]
  exact h
/-- How many reasons there are of a kind. -/
def H.szK (T : List (List Int)) : Nat → Nat
  | 0 => T.length
  | 1 => H.wid T
  | _ => 1
/-- The first reasons of a kind. -/
def H.rsK (kd : Nat) : Nat → List Rs
  | 0 => []
  | j + 1 => H.rsK kd j ++ [(kd, j)]
/-- The reasons of the first kinds. -/
def H.pre (T : List (List Int)) : Nat → List Rs
  | 0 => []
  | k + 1 => H.pre T k ++ H.rsK k (H.szK T k)
/-- All reasons. -/
def H.rsn (T : List (List Int)) : List Rs := H.pre T 3
theorem H.rsK_len (kd : Nat) : ∀ j, (H.rsK kd j).length = j
  | 0 => rfl
  | j + 1 => by rw [H.rsK, List.length_append, H.rsK_len kd j]; rfl

set_option maxHeartbeats 4000000 in
set_option maxRecDepth 100000 in
theorem reasonsOf_any (a : Option Addr) (c : Nat) (T : List (List Int)) (w : World) (hok : H.Ok T) (hx : RdM w a T) :
    Calls Try.prog 60 #[.slice a T.length c] w fun e w' => ∃ v, e = .returned v ∧ RowR w' w.heap.size v (H.rsn T) ∧ Below w.heap.size w w' := by
  obtain ⟨i0, hi, hz0, hz1, hz2⟩ := info_parts (show (Try.prog.info? 24).map (fun i => (i.zero, i.size, i.bytes)) = some (some (.agg #[.int .i64 0, .int .i64 0]), 2, 16) by kernel_rfl)
  have h6 := hok.m6
  have h1 := hok.m1
  have n6 := hok.n6
  have HX := hid hx
  have HSZ : Hid (∀ k, H.szK T k ≤ 6) := hid (fun k => match k with | 0 => h6 | 1 => n6 | _ + 2 => by show 1 ≤ 6; decide)
  have HPL : Hid (∀ k, k ≤ 3 → (H.pre T k).length ≤ 6 * k) := hid (fun k hk => by
    have hs := HSZ.out
    match k, hk with
    | 0, _ => exact Nat.le_refl _
    | 1, _ => simp only [H.pre, List.length_append, H.rsK_len, List.length_nil]; have := hs 0; omega
    | 2, _ => simp only [H.pre, List.length_append, H.rsK_len, List.length_nil]; have := hs 0; have := hs 1; omega
    | 3, _ => simp only [H.pre, List.length_append, H.rsK_len, List.length_nil]; have := hs 0; have := hs 1; have := hs 2; omega)
  have HK3 := hid (fun W (hr : RdM W a T) => kinds3_any a c T W (by omega) hr)
  clear hx hok
  go_enter Try.func60, Try.ntmps60
  go_wp2_with fail
  refine (kinds_any w).mono ?_
  rintro e w1 ⟨rfl, hb⟩
  have HB1 := hid hb
  clear hb
  go_wp2
  go_loopw [3, 8] (fun v i wr => ∃ k : Nat, k ≤ 3 ∧ i = .int .i64 k ∧ RowR wr w.heap.size v (H.pre T k) ∧ Below w.heap.size w wr) (fun _ i _ => 3 - (intOf i).toNat)
  case atStart => exact ⟨0, Nat.zero_le _, rfl, RowR.nil _ _, HB1.out⟩
  case round =>
    obtain ⟨k, hk, rfl, hrow, hb⟩ := hrel
    have HROW := hid hrow
    have HB := hid hb
    have hxr := hid (HX.out.stays hb)
    clear hrow hb
    generalize hwr : wr = w2 at *
    clear hwr
    by_cases hlt : k < 3
    · have hk3 : k = 0 ∨ k = 1 ∨ k = 2 := by omega
      have HEV : Hid (H.pre T (k + 1) = H.pre T k ++ H.rsK k (H.szK T k)) := hid rfl
      have HPK := hid (HPL.out k hk)
      clear hlt
      rcases hk3 with rfl | rfl | rfl
      · have ik := indexK0
        have HSK : Hid (H.szK T 0 = T.length) := hid rfl
        have HN6 := hid (HSZ.out 0)
        rw [HSK.out] at HEV HN6
        clear HSZ HPL
        have HAB := hid (HB.out.alloc HB.out.size (.cells #[.func (.func 89) #[] #[], .func (.func 90) #[] #[]] 96))
        have HXA := hid (hxr.out.stays ((Below.refl _ _).alloc (Nat.le_refl _) (.cells #[.func (.func 89) #[] #[], .func (.func 90) #[] #[]] 96)))
        have HRA := hid (RowR.stays HROW.out ((Below.refl _ _).alloc (Nat.le_refl _) (.cells #[.func (.func 89) #[] #[], .func (.func 90) #[] #[]] 96)))
        generalize H.pre T 0 = E at *
        go_wp2_with fail
        refine (kinds1_any _ _ _ _).mono ?_
        rintro e w' ⟨rfl, rfl⟩
        generalize w2.alloc (.cells #[.func (.func 89) #[] #[], .func (.func 90) #[] #[]] 96) = w3 at *
        clear ik
        go_wp2
        go_loopw [3, 16] (fun v i wr => ∃ j : Nat, j ≤ T.length ∧ i = .int .i64 j ∧ RowR wr w.heap.size v (E ++ H.rsK 0 j) ∧ Below w.heap.size w wr) (fun _ i _ => T.length - (intOf i).toNat)
        case atStart => exact ⟨0, Nat.zero_le _, rfl, by rw [show E ++ H.rsK 0 0 = E from List.append_nil _]; exact HRA.out, HAB.out⟩
        case round =>
          obtain ⟨j, hj, rfl, hrow, hb⟩ := hrel
          have HRW := hid hrow
          have HBW := hid hb
          clear hrow hb
          by_cases hjl : j < T.length
          · have HEJ : Hid (E ++ H.rsK 0 (j + 1) = (E ++ H.rsK 0 j) ++ [(0, j)]) := hid (by rw [H.rsK, List.append_assoc])
            have hln : (E ++ H.rsK 0 j).length ≤ 24 := by rw [List.length_append, H.rsK_len]; have := HPK.out; have := HN6.out; omega
            have HM1 : Hid ((E ++ H.rsK 0 j).length + 1 ≤ maxLen) := hid (by unfold maxLen; omega)
            have HM2 : Hid (((E ++ H.rsK 0 j).length + 1) * 16 ≤ 140737488355328) := hid (by omega)
            generalize E ++ H.rsK 0 j = F at *
            clear hln
            go_wp2_with (at_builtin; refine wpList_append_own _ rfl _ _ 89 rfl w.heap.size 24 i0 (.agg #[.int .i64 0, .int .i64 0]) 2 16 Try.underlying89 hi hz0 hz1 hz2 rfl (by decide) _ _ _ rfl (World.ownsRow.alloc HRW.out _) ⟨wr.heap.size, 0, none⟩ 1 1 [.int .i64 0, .int .i64 (j : Int)] rfl rfl ?c10 ?c20 HM1.out HM2.out ?c50 ?_)
            case c10 =>
              intro i u hi
              match i, hi with
              | 0, hi => simp at hi; subst hi; rw [show Addr.add ⟨wr.heap.size, 0, none⟩ 0 = ⟨wr.heap.size, 0, none⟩ from rfl, World.cell?_alloc_at _ _ _ _ rfl]; rfl
              | 1, hi => simp at hi; subst hi; rw [show Addr.add ⟨wr.heap.size, 0, none⟩ 1 = ⟨wr.heap.size, 1, none⟩ from rfl, World.cell?_alloc_at _ _ _ _ rfl]; rfl
            case c20 => intro u hu; simp at hu; rcases hu with rfl | rfl <;> rfl
            case c50 => exact Nat.le_trans HBW.out.size (by simp)
            intro v' w9 hown' hgrow _
            have HB9 := hid (Below.grown (HBW.out.alloc HBW.out.size (.cells #[.int .i64 0, .int .i64 (j : Int)] 24)) hgrow (by simp; have := HBW.out.size; omega) (fun q hq => (World.ownsRow.lt HRW.out q hq).1))
            have HO9 := hid (RowR.push (x := 0) (y := j) hown')
            clear hown' hgrow
            go_wp2
            go_roundw
            case rel => exact ⟨j + 1, by omega, by go_num, by rw [HEJ.out]; exact HO9.out, HB9.out⟩
            case measure => simp [intOf]; omega
          · have hje : j = T.length := by omega
            subst hje
            rw [← HEV.out] at HRW
            go_wp2
            go_roundw
            case rel => exact ⟨0 + 1, by omega, by go_num, HRW.out, HBW.out⟩
            case measure => simp [intOf]
      · have ik := indexK1
        have HSK : Hid (H.szK T 1 = H.wid T) := hid rfl
        have HN6 := hid (HSZ.out 1)
        rw [HSK.out] at HEV HN6
        clear HSZ HPL
        have HAB := hid (HB.out.alloc HB.out.size (.cells #[.func (.func 91) #[] #[], .func (.func 92) #[] #[]] 96))
        have HXA := hid (hxr.out.stays ((Below.refl _ _).alloc (Nat.le_refl _) (.cells #[.func (.func 91) #[] #[], .func (.func 92) #[] #[]] 96)))
        have HRA := hid (RowR.stays HROW.out ((Below.refl _ _).alloc (Nat.le_refl _) (.cells #[.func (.func 91) #[] #[], .func (.func 92) #[] #[]] 96)))
        generalize H.pre T 1 = E at *
        go_wp2_with fail
        refine (HK3.out _ HXA.out).mono ?_
        rintro e w' ⟨rfl, rfl⟩
        generalize w2.alloc (.cells #[.func (.func 91) #[] #[], .func (.func 92) #[] #[]] 96) = w3 at *
        clear ik
        go_wp2
        go_loopw [3, 16] (fun v i wr => ∃ j : Nat, j ≤ H.wid T ∧ i = .int .i64 j ∧ RowR wr w.heap.size v (E ++ H.rsK 1 j) ∧ Below w.heap.size w wr) (fun _ i _ => H.wid T - (intOf i).toNat)
        case atStart => exact ⟨0, Nat.zero_le _, rfl, by rw [show E ++ H.rsK 1 0 = E from List.append_nil _]; exact HRA.out, HAB.out⟩
        case round =>
          obtain ⟨j, hj, rfl, hrow, hb⟩ := hrel
          have HRW := hid hrow
          have HBW := hid hb
          clear hrow hb
          by_cases hjl : j < H.wid T
          · have HEJ : Hid (E ++ H.rsK 1 (j + 1) = (E ++ H.rsK 1 j) ++ [(1, j)]) := hid (by rw [H.rsK, List.append_assoc])
            have hln : (E ++ H.rsK 1 j).length ≤ 24 := by rw [List.length_append, H.rsK_len]; have := HPK.out; have := HN6.out; omega
            have HM1 : Hid ((E ++ H.rsK 1 j).length + 1 ≤ maxLen) := hid (by unfold maxLen; omega)
            have HM2 : Hid (((E ++ H.rsK 1 j).length + 1) * 16 ≤ 140737488355328) := hid (by omega)
            generalize E ++ H.rsK 1 j = F at *
            clear hln
            go_wp2_with (at_builtin; refine wpList_append_own _ rfl _ _ 89 rfl w.heap.size 24 i0 (.agg #[.int .i64 0, .int .i64 0]) 2 16 Try.underlying89 hi hz0 hz1 hz2 rfl (by decide) _ _ _ rfl (World.ownsRow.alloc HRW.out _) ⟨wr.heap.size, 0, none⟩ 1 1 [.int .i64 1, .int .i64 (j : Int)] rfl rfl ?c11 ?c21 HM1.out HM2.out ?c51 ?_)
            case c11 =>
              intro i u hi
              match i, hi with
              | 0, hi => simp at hi; subst hi; rw [show Addr.add ⟨wr.heap.size, 0, none⟩ 0 = ⟨wr.heap.size, 0, none⟩ from rfl, World.cell?_alloc_at _ _ _ _ rfl]; rfl
              | 1, hi => simp at hi; subst hi; rw [show Addr.add ⟨wr.heap.size, 0, none⟩ 1 = ⟨wr.heap.size, 1, none⟩ from rfl, World.cell?_alloc_at _ _ _ _ rfl]; rfl
            case c21 => intro u hu; simp at hu; rcases hu with rfl | rfl <;> rfl
            case c51 => exact Nat.le_trans HBW.out.size (by simp)
            intro v' w9 hown' hgrow _
            have HB9 := hid (Below.grown (HBW.out.alloc HBW.out.size (.cells #[.int .i64 1, .int .i64 (j : Int)] 24)) hgrow (by simp; have := HBW.out.size; omega) (fun q hq => (World.ownsRow.lt HRW.out q hq).1))
            have HO9 := hid (RowR.push (x := 1) (y := j) hown')
            clear hown' hgrow
            go_wp2
            go_roundw
            case rel => exact ⟨j + 1, by omega, by go_num, by rw [HEJ.out]; exact HO9.out, HB9.out⟩
            case measure => simp [intOf]; omega
          · have hje : j = H.wid T := by omega
            subst hje
            rw [← HEV.out] at HRW
            go_wp2
            go_roundw
            case rel => exact ⟨1 + 1, by omega, by go_num, HRW.out, HBW.out⟩
            case measure => simp [intOf]
      · have ik := indexK2
        have HSK : Hid (H.szK T 2 = 1) := hid rfl
        have HN6 := hid (HSZ.out 2)
        rw [HSK.out] at HEV HN6
        clear HSZ HPL
        have HAB := hid (HB.out.alloc HB.out.size (.cells #[.func (.func 93) #[] #[], .func (.func 94) #[] #[]] 96))
        have HXA := hid (hxr.out.stays ((Below.refl _ _).alloc (Nat.le_refl _) (.cells #[.func (.func 93) #[] #[], .func (.func 94) #[] #[]] 96)))
        have HRA := hid (RowR.stays HROW.out ((Below.refl _ _).alloc (Nat.le_refl _) (.cells #[.func (.func 93) #[] #[], .func (.func 94) #[] #[]] 96)))
        generalize H.pre T 2 = E at *
        go_wp2_with fail
        refine (kinds5_any _ _ _ _).mono ?_
        rintro e w' ⟨rfl, rfl⟩
        generalize w2.alloc (.cells #[.func (.func 93) #[] #[], .func (.func 94) #[] #[]] 96) = w3 at *
        clear ik
        go_wp2
        go_loopw [3, 16] (fun v i wr => ∃ j : Nat, j ≤ 1 ∧ i = .int .i64 j ∧ RowR wr w.heap.size v (E ++ H.rsK 2 j) ∧ Below w.heap.size w wr) (fun _ i _ => 1 - (intOf i).toNat)
        case atStart => exact ⟨0, Nat.zero_le _, rfl, by rw [show E ++ H.rsK 2 0 = E from List.append_nil _]; exact HRA.out, HAB.out⟩
        case round =>
          obtain ⟨j, hj, rfl, hrow, hb⟩ := hrel
          have HRW := hid hrow
          have HBW := hid hb
          clear hrow hb
          by_cases hjl : j < 1
          · have HEJ : Hid (E ++ H.rsK 2 (j + 1) = (E ++ H.rsK 2 j) ++ [(2, j)]) := hid (by rw [H.rsK, List.append_assoc])
            have hln : (E ++ H.rsK 2 j).length ≤ 24 := by rw [List.length_append, H.rsK_len]; have := HPK.out; have := HN6.out; omega
            have HM1 : Hid ((E ++ H.rsK 2 j).length + 1 ≤ maxLen) := hid (by unfold maxLen; omega)
            have HM2 : Hid (((E ++ H.rsK 2 j).length + 1) * 16 ≤ 140737488355328) := hid (by omega)
            generalize E ++ H.rsK 2 j = F at *
            clear hln
            go_wp2_with (at_builtin; refine wpList_append_own _ rfl _ _ 89 rfl w.heap.size 24 i0 (.agg #[.int .i64 0, .int .i64 0]) 2 16 Try.underlying89 hi hz0 hz1 hz2 rfl (by decide) _ _ _ rfl (World.ownsRow.alloc HRW.out _) ⟨wr.heap.size, 0, none⟩ 1 1 [.int .i64 2, .int .i64 (j : Int)] rfl rfl ?c12 ?c22 HM1.out HM2.out ?c52 ?_)
            case c12 =>
              intro i u hi
              match i, hi with
              | 0, hi => simp at hi; subst hi; rw [show Addr.add ⟨wr.heap.size, 0, none⟩ 0 = ⟨wr.heap.size, 0, none⟩ from rfl, World.cell?_alloc_at _ _ _ _ rfl]; rfl
              | 1, hi => simp at hi; subst hi; rw [show Addr.add ⟨wr.heap.size, 0, none⟩ 1 = ⟨wr.heap.size, 1, none⟩ from rfl, World.cell?_alloc_at _ _ _ _ rfl]; rfl
            case c22 => intro u hu; simp at hu; rcases hu with rfl | rfl <;> rfl
            case c52 => exact Nat.le_trans HBW.out.size (by simp)
            intro v' w9 hown' hgrow _
            have HB9 := hid (Below.grown (HBW.out.alloc HBW.out.size (.cells #[.int .i64 2, .int .i64 (j : Int)] 24)) hgrow (by simp; have := HBW.out.size; omega) (fun q hq => (World.ownsRow.lt HRW.out q hq).1))
            have HO9 := hid (RowR.push (x := 2) (y := j) hown')
            clear hown' hgrow
            go_wp2
            go_roundw
            case rel => exact ⟨j + 1, by omega, by go_num, by rw [HEJ.out]; exact HO9.out, HB9.out⟩
            case measure => simp [intOf]; omega
          · have hje : j = 1 := by omega
            subst hje
            rw [← HEV.out] at HRW
            go_wp2
            go_roundw
            case rel => exact ⟨2 + 1, by omega, by go_num, HRW.out, HBW.out⟩
            case measure => simp [intOf]
    · have hke : k = 3 := by omega
      subst hke
      go_wp2
      go_ret
      exact ⟨_, rfl, HROW.out, HB.out⟩
end Go.Proofs.Ythlcnklbeolhpaa
