/- Package hours: steps of plans; the walks of checkStep and lengthOf. -/
import Derived.Test.YthlcnklbeolhpaaHChk
import Derived.Deep.OwnRows
import Derived.BigQuiet
namespace Go.Proofs.Ythlcnklbeolhpaa
open Go.RowKit

/-- A step: hours, and where the artists work. -/
abbrev Stp := Int × List Int
/-- The slice with this address reads as these steps. -/
def RdS (w : World) (a : Option Addr) (L : List Stp) : Prop :=
  ∀ k (h : k < L.length), ∃ b off r c, a = some ⟨b, off, none⟩ ∧ w.cell? ⟨b, off + k * 2, none⟩ = some (.int .i64 L[k].1) ∧ w.cell? ⟨b, off + k * 2 + 1, none⟩ = some (.slice r L[k].2.length c) ∧ RdI w r L[k].2
theorem RdS.stays {w w' : World} {a : Option Addr} {L : List Stp} (h : RdS w a L) (hb : Below w.heap.size w w') : RdS w' a L := fun k hk => by
  obtain ⟨b, off, r, c, ha, h1, h2, h3⟩ := h k hk
  exact ⟨b, off, r, c, ha, cell_stays hb (Nat.le_refl _) h1, cell_stays hb (Nat.le_refl _) h2, h3.stays hb⟩
/-- Whether a place is idle or a machine. -/
def H.okp (n : Nat) (x : Int) : Prop := x = -1 ∨ (0 ≤ x ∧ x < n)
instance (n : Nat) (x : Int) : Decidable (H.okp n x) := by unfold H.okp; exact inferInstance
/-- Whether the artist k works where one before works. -/
def H.again (l : List Int) (k : Nat) : Prop := l.getD k (-1) ≠ -1 ∧ l.getD k (-1) ∈ l.take k
instance (l : List Int) (k : Nat) : Decidable (H.again l k) := by unfold H.again; exact inferInstance
def H.dup (l : List Int) : Bool := (List.range l.length).any fun k => decide (H.again l k)
/-- How many work. -/
def H.wk (l : List Int) : Nat := (l.filter fun x => decide (x ≠ -1)).length
theorem H.wk_take {l : List Int} {k : Nat} (h : k < l.length) : H.wk (l.take (k + 1)) = H.wk (l.take k) + if l[k] = -1 then 0 else 1 := by
  unfold H.wk
  rw [List.take_succ_eq_append_getElem h, List.filter_append, List.length_append]
  by_cases e : l[k] = -1
  · simp [e]
  · simp [e]
theorem H.wk_le (l : List Int) : H.wk l ≤ l.length := List.length_filter_le _ _
/-- The error of a step: artists, machines, seats. -/
def H.stp (m n : Nat) (s : Int) (p : Stp) : Int :=
  if p.2.length ≠ m then 3 else if p.1 < 1 ∨ 1100 < p.1 then 4 else if ¬ ∀ x ∈ p.2, H.okp n x then 5 else if H.dup p.2 = true then 6 else if s < (H.wk p.2 : Int) then 16 else 0
theorem H.dup_hit {l : List Int} {k : Nat} (hk : k < l.length) (h : H.again l k) : H.dup l = true := List.any_eq_true.2 ⟨k, List.mem_range.2 hk, decide_eq_true h⟩
theorem H.dup_none {l : List Int} (h : ∀ k, k < l.length → ¬ H.again l k) : H.dup l = false := by
  unfold H.dup
  rw [List.any_eq_false]
  intro k hk
  simpa using h k (List.mem_range.1 hk)
theorem H.again_iff {l : List Int} {k : Nat} (hk : k < l.length) : H.again l k ↔ l[k] ≠ -1 ∧ l[k] ∈ l.take k := by
  unfold H.again
  rw [List.getD_eq_getElem?_getD, List.getElem?_eq_getElem hk]
  rfl
/-- Which machines are taken. -/
def H.tkn (l : List Int) (k : Nat) (j : Nat) : Value := .bool (decide ((j : Int) ∈ l.take k))
theorem H.mem_takeS {l : List Int} {k : Nat} (h : k < l.length) (x : Int) : x ∈ l.take (k + 1) ↔ x = l[k] ∨ x ∈ l.take k := by
  rw [List.take_succ_eq_append_getElem h, List.mem_append, List.mem_singleton, or_comm]
theorem H.tkn_take {l : List Int} {k j : Nat} (h : k < l.length) : H.tkn l (k + 1) j = if (j : Int) = l[k] then .bool true else H.tkn l k j := by
  unfold H.tkn
  by_cases e : (j : Int) = l[k]
  · rw [if_pos e, decide_eq_true ((H.mem_takeS h _).2 (Or.inl e))]
  · rw [if_neg e]
    congr 1
    rw [decide_eq_decide, H.mem_takeS h]
    exact ⟨fun q => q.resolve_left e, Or.inr⟩

set_option maxHeartbeats 4000000 in
set_option maxRecDepth 100000 in
theorem checkStep_any (a : Option Addr) (c : Nat) (T : List (List Int)) (s h : Int) (r : Option Addr) (rc : Nat) (l : List Int) (w : World) (hok : H.Ok T) (hl : l.length ≤ maxLen) (hx : RdM w a T) (hr : RdI w r l) :
    Calls Try.prog 100 #[.slice a T.length c, .int .i64 s, .agg #[.int .i64 h, .slice r l.length rc]] w fun e w' => e = .returned (.int .i64 (H.stp T.length (H.wid T) s (h, l))) ∧ Below w.heap.size w w' := by
  have h1 := hok.m1
  have h6 := hok.m6
  have n1 := hok.n1
  have n6 := hok.n6
  have HWD := hid (H.wid_eq (T := T) (by omega))
  unfold maxLen at hl
  have HB0 := hid ((Below.refl w.heap.size w).alloc (Nat.le_refl _) (.cells #[.int .i64 h, .slice r l.length rc] 47))
  have HB0 := hid ((Below.refl w.heap.size w).alloc (Nat.le_refl _) (.cells #[.int .i64 h, .slice r l.length rc] 47))
  have HB0 := hid ((Below.refl w.heap.size w).alloc (Nat.le_refl _) (.cells #[.int .i64 h, .slice r l.length rc] 47))
  have HB0 := hid ((Below.refl w.heap.size w).alloc (Nat.le_refl _) (.cells #[.int .i64 h, .slice r l.length rc] 47))
  by_cases e1 : l.length = T.length
  · have e1' : ((l.length : Int) = (T.length : Int)) = True := eq_true (by omega)
    have d1 : ((l.length : Int) != (T.length : Int)) = false := by rw [bne_eq_false_iff_eq]; omega
    have E1 := hid e1
    by_cases e2 : h < 1
    · have HR : Hid (H.stp T.length (H.wid T) s (h, l) = 4) := hid (by unfold H.stp; rw [if_neg (by simpa using e1), if_pos (Or.inl e2)])
      rw [HR.out]
      clear e1
      go_enter Try.func100, Try.ntmps100
      go_wp2
      go_ret
      exact ⟨rfl, HB0.out⟩
    · by_cases e3 : 1100 < h
      · have HR : Hid (H.stp T.length (H.wid T) s (h, l) = 4) := hid (by unfold H.stp; rw [if_neg (by simpa using e1), if_pos (Or.inr e3)])
        rw [HR.out]
        clear e1
        go_enter Try.func100, Try.ntmps100
        go_wp2
        go_ret
        exact ⟨rfl, HB0.out⟩
      · have HST : Hid (H.stp T.length (H.wid T) s (h, l) = if ¬ ∀ x ∈ l, H.okp (H.wid T) x then 5 else if H.dup l = true then 6 else if s < (H.wk l : Int) then 16 else 0) := hid (by unfold H.stp; rw [if_neg (by simpa using e1), if_neg (by simp only [not_or]; exact ⟨e2, e3⟩)])
        rw [HST.out]
        obtain ⟨R, hR⟩ : ∃ R : Int, R = if ¬ ∀ x ∈ l, H.okp (H.wid T) x then 5 else if H.dup l = true then 6 else if s < (H.wk l : Int) then 16 else 0 := ⟨_, rfl⟩
        rw [← hR]
        have HRE := hid hR
        clear hR
        have HRL := hid hr
        obtain ⟨b0, o0, r0, c0, rfl, q0, _⟩ := hx 0 (by omega)
        rw [Nat.add_zero, ← HWD.out] at q0
        have Q0 := hid (cell_stays HB0.out (Nat.le_refl _) q0)
        have hm0 : (0 : Int) < (T.length : Int) := by omega
        have HW := hid (fun x W => within_any x (H.wid T : Int) W)
        clear hx hr q0 HST e1
        go_enter Try.func100, Try.ntmps100
        go_wp2
        have QS : Hid ((w.alloc (.cells #[.int .i64 h, .slice r l.length rc] 47)).cell? ⟨w.heap.size, 1, none⟩ = some (.slice r l.length rc)) := hid (by rw [World.cell?_alloc_at _ _ _ _ rfl]; rfl)
        generalize w.alloc (.cells #[.int .i64 h, .slice r l.length rc] 47) = w0 at *
        go_loop [32] (fun i => ∃ k : Nat, k ≤ l.length ∧ i = .int .i64 k ∧ ∀ j (hj : j < l.length), j < k → H.okp (H.wid T) l[j]) (fun i => l.length - (intOf i).toNat)
        case atStart => exact ⟨0, Nat.zero_le _, rfl, fun j _ hj => absurd hj (Nat.not_lt_zero _)⟩
        case round =>
          obtain ⟨k, hk, rfl, hall⟩ := hrel
          by_cases hlt : k < l.length
          · obtain ⟨b, off, rfl, hc⟩ := HRL.out k hlt
            have hc0 := cell_stays HB0.out (Nat.le_refl _) hc
            have HA := hid hall
            have HL := hid (show ∀ x, l[k] = x → x ∈ l from fun x e => e ▸ List.getElem_mem hlt)
            have HK := hid (show ∀ x, l[k] = x → H.okp (H.wid T) x → ∀ j (hj : j < l.length), j < k + 1 → H.okp (H.wid T) l[j] from fun x e hp j hj hjk => by
              by_cases ej : j = k
              · subst ej; rw [e]; exact hp
              · exact HA.out j hj (by omega))
            clear hall hc
            generalize l[k] = x at *
            have hix : (0 : Int) ≤ (k : Int) ∧ (k : Int) < (l.length : Int) := by omega
            by_cases hx1 : x = -1
            · have hok1 : H.okp (H.wid T) x := Or.inl hx1
              have HK2 := hid (HK.out x rfl hok1)
              subst hx1
              clear HK HL
              go_wp2
              go_round
              case rel => exact ⟨k + 1, by omega, by go_num, HK2.out⟩
              case measure => simp [intOf]; omega
            · have q00 := Q0.out
              cases hin : H.inn x (H.wid T) with
              | true =>
                have hok1 : H.okp (H.wid T) x := Or.inr (of_decide_eq_true hin)
                have HK2 := hid (HK.out x rfl hok1)
                have HW2 := hid (HW.out x w0)
                rw [hin] at HW2
                clear HK HL hin
                go_wp2_with fail
                refine HW2.out.mono ?_
                rintro e w' ⟨rfl, rfl⟩
                go_wp2
                go_round
                case rel => exact ⟨k + 1, by omega, by go_num, HK2.out⟩
                case measure => simp [intOf]; omega
              | false =>
                have hno : ¬ H.okp (H.wid T) x := fun hp => by
                  rcases hp with hp | hp
                  · exact hx1 hp
                  · have := decide_eq_true (p := 0 ≤ x ∧ x < (H.wid T : Int)) hp
                    unfold H.inn at hin
                    rw [this] at hin
                    cases hin
                have HR5 : Hid (R = 5) := hid (by rw [HRE.out, if_pos (fun hall => hno (hall x (HL.out x rfl)))])
                have HW2 := hid (HW.out x w0)
                rw [hin] at HW2
                clear HK HL hin
                go_wp2_with fail
                refine HW2.out.mono ?_
                rintro e w' ⟨rfl, rfl⟩
                go_wp2
                go_ret
                exact ⟨ret_int HR5.out.symm, HB0.out⟩
          · have hke : k = l.length := by omega
            subst hke
            have hnn : ¬ ¬ ∀ x ∈ l, H.okp (H.wid T) x := fun hno => hno (fun x hx => by
              obtain ⟨j, hj, e⟩ := List.mem_iff_getElem.1 hx
              rw [← e]
              exact hall j hj hj)
            have HAL : Hid (∀ x ∈ l, H.okp (H.wid T) x) := hid (Classical.byContradiction hnn)
            rw [if_neg hnn] at HRE
            have HNA := hid (World.rowIs_alloc w0 #[.bool false, .bool false, .bool false, .bool false, .bool false, .bool false] 139 (fun _ => .bool false) (fun i hi => by
              have hi2 : i < 6 := hi
              match i, hi2 with
              | 0, _ => rfl
              | 1, _ => rfl
              | 2, _ => rfl
              | 3, _ => rfl
              | 4, _ => rfl
              | 5, _ => rfl))
            have HNB := hid (HB0.out.alloc HB0.out.size (.cells #[.bool false, .bool false, .bool false, .bool false, .bool false, .bool false] 139))
            have HGN : Hid (w.heap.size ≤ w0.heap.size) := hid HB0.out.size
            have qs1 : (w0.alloc (.cells #[.bool false, .bool false, .bool false, .bool false, .bool false, .bool false] 139)).cell? ⟨w.heap.size, 1, none⟩ = some (.slice r l.length rc) := Lib.cell?_alloc_some _ QS.out
            clear hall hnn Q0 HW
            go_wp2
            clear qs1 QS
            generalize w0.alloc (.cells #[.bool false, .bool false, .bool false, .bool false, .bool false, .bool false] 139) = wz at *
            generalize w0.heap.size = N at *
            clear hk hlt
            go_loopw [10, 51] (fun nn i wr => ∃ k : Nat, k ≤ l.length ∧ i = .int .i64 k ∧ nn = .int .i64 (H.wk (l.take k) : Nat) ∧ wr.rowIs N 139 6 (H.tkn l k) ∧ (∀ j, j < k → ¬ H.again l j) ∧ Below w.heap.size w wr) (fun _ i _ => l.length - (intOf i).toNat)
            case atStart => exact ⟨0, Nat.zero_le _, rfl, by simp [H.wk], HNA.out.congr (fun j _ => by simp [H.tkn]), fun j hj => absurd hj (Nat.not_lt_zero _), HNB.out⟩
            case round =>
              obtain ⟨k, hk, rfl, rfl, hrow, hno, hb⟩ := hrel
              have HB := hid hb
              have HNO := hid hno
              have HROW := hid hrow
              have hwl := H.wk_le (l.take k)
              rw [List.length_take] at hwl
              by_cases hlt : k < l.length
              · obtain ⟨b, off, rfl, hc⟩ := HRL.out k hlt
                have c1 := cell_stays hb (Nat.le_refl _) hc
                have hix : (0 : Int) ≤ (k : Int) ∧ (k : Int) < (l.length : Int) := by omega
                have hp := HAL.out _ (List.getElem_mem hlt)
                have HWT := hid (H.wk_take hlt)
                have HTK := hid (fun j => H.tkn_take (l := l) (k := k) (j := j) hlt)
                have HAG := hid (H.again_iff hlt)
                have HDU := hid (fun h => H.dup_hit (l := l) (k := k) hlt h)
                clear hb hno hc
                generalize l[k] = x at *
                by_cases hx1 : x = -1
                · subst hx1
                  have hw2 := HWT.out
                  rw [if_pos rfl, Nat.add_zero] at hw2
                  have HN2 := hid (show (∀ j, H.tkn l (k + 1) j = H.tkn l k j) ∧ (∀ j, j < k + 1 → ¬ H.again l j) ∧ H.wk (l.take (k + 1)) = H.wk (l.take k) from
                    ⟨fun j => by rw [HTK.out, if_neg (by omega)], fun j hj => by
                      by_cases ej : j = k
                      · subst ej; rw [HAG.out]; exact fun h => h.1 rfl
                      · exact HNO.out j (by omega), hw2⟩)
                  clear HTK HAG HDU HWT hw2 hrow
                  go_wp2
                  go_roundw
                  case rel => exact ⟨k + 1, by omega, by go_num, by rw [HN2.out.2.2], HROW.out.congr (fun j _ => (HN2.out.1 j).symm), HN2.out.2.1, HB.out⟩
                  case measure => simp [intOf]; omega
                · obtain ⟨X, rfl⟩ : ∃ X : Nat, x = (X : Int) := ⟨x.toNat, by rcases hp with hp | hp <;> omega⟩
                  have hX6 : X < 6 := by rcases hp with hp | hp <;> omega
                  have y1 := hrow.cell hX6
                  have y2 := hrow.frozen X
                  unfold H.tkn at y1
                  have hXx : (0 : Int) ≤ (X : Int) ∧ (X : Int) < 6 := by omega
                  by_cases hm : (X : Int) ∈ l.take k
                  · rw [decide_eq_true hm] at y1
                    have HR6 : Hid (R = 6) := hid (by rw [HRE.out, if_pos (HDU.out (HAG.out.2 ⟨hx1, hm⟩))])
                    clear HTK HAG HDU HWT hrow
                    go_wp2
                    go_ret
                    exact ⟨ret_int HR6.out.symm, HB.out⟩
                  · rw [decide_eq_false hm] at y1
                    have hw2 := HWT.out
                    rw [if_neg hx1] at hw2
                    have hwr : IntKind.i64.wrap (((H.wk (l.take k) : Nat) : Int) + 1) = ((H.wk (l.take k) : Nat) : Int) + 1 := IntWalk.i64_in _ (by omega)
                    have HN2 := hid (show (∀ j, j < k + 1 → ¬ H.again l j) ∧ H.wk (l.take (k + 1)) = H.wk (l.take k) + 1 from
                      ⟨fun j hj => by
                        by_cases ej : j = k
                        · subst ej; rw [HAG.out]; exact fun h => hm h.2
                        · exact HNO.out j (by omega), hw2⟩)
                    have HRS := hid ((hrow.set X (.bool true)).congr (fun j _ => show (if j = X then Value.bool true else H.tkn l k j) = H.tkn l (k + 1) j by
                      rw [HTK.out]
                      by_cases ej : j = X
                      · subst ej; rw [if_pos rfl, if_pos rfl]
                      · rw [if_neg ej, if_neg (by omega)]))
                    have HB2 := hid (Below.setCell HB.out (p := ⟨N, X, none⟩) HGN.out (.bool true))
                    clear HTK HAG HDU HWT hw2 hrow hm
                    go_wp2
                    go_roundw
                    case rel => exact ⟨k + 1, by omega, by go_num, by rw [HN2.out.2]; push_cast; rfl, HRS.out, HN2.out.1, HB2.out⟩
                    case measure => simp [intOf]; omega
              · have hke : k = l.length := by omega
                subst hke
                rw [H.dup_none hno, if_neg (by decide)] at HRE
                rw [List.take_length] at *
                clear hrow hno hb HNO HROW
                generalize H.wk l = W at *
                by_cases hov : s < (W : Int)
                · have HR16 : Hid (R = 16) := hid (by rw [HRE.out, if_pos hov])
                  go_wp2
                  go_ret
                  exact ⟨ret_int HR16.out.symm, HB.out⟩
                · have HR0 : Hid (R = 0) := hid (by rw [HRE.out, if_neg hov])
                  go_wp2
                  go_ret
                  exact ⟨ret_int HR0.out.symm, HB.out⟩
  · have HR : Hid (H.stp T.length (H.wid T) s (h, l) = 3) := hid (by unfold H.stp; rw [if_pos e1])
    rw [HR.out]
    have e1' : ¬ (l.length : Int) = (T.length : Int) := by omega
    go_enter Try.func100, Try.ntmps100
    go_wp2
    go_ret
    exact ⟨rfl, HB0.out⟩
end Go.Proofs.Ythlcnklbeolhpaa
