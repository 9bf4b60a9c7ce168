/- Package hours: the walk of serves. -/
import Derived.Test.YthlcnklbeolhpaaHCop
import Derived.BigRegion
import Derived.RegionTactic
namespace Go.Proofs.Ythlcnklbeolhpaa
open Go.RowKit

/-- The hours that an artist works at a machine in steps. -/
def H.dn (L : List Stp) (i d : Nat) : Int := H.sum (L.map fun p => if p.2.getD i (-1) = (d : Int) then p.1 else 0)
theorem H.dn_take {L : List Stp} {k : Nat} (h : k < L.length) (i d : Nat) : H.dn (L.take (k + 1)) i d = H.dn (L.take k) i d + if L[k].2.getD i (-1) = (d : Int) then L[k].1 else 0 := by
  unfold H.dn
  rw [List.map_take, List.map_take, H.sum_take (by simpa using h)]
  simp
theorem H.dn_bd {L : List Stp} (h : ∀ p ∈ L, 1 ≤ p.1 ∧ p.1 ≤ 1100) (i d : Nat) : 0 ≤ H.dn L i d ∧ H.dn L i d ≤ 1100 * L.length := by
  unfold H.dn
  have := H.sum_bd (b := 1100) (l := L.map fun p => if p.2.getD i (-1) = (d : Int) then p.1 else 0) (fun x hx => by
    obtain ⟨p, hp, rfl⟩ := List.mem_map.1 hx
    have := h p hp
    split <;> omega)
  rwa [List.length_map] at this
theorem H.OM.congr {w : World} {lo bo m n p : Nat} {ib : Nat → Nat} {F G : Nat → Nat → Int} (h : H.OM w lo bo m n ib F p) (hG : ∀ i d, i < p → d < n → G i d = F i d) : H.OM w lo bo m n ib G p :=
  ⟨h.outer, fun j hj => (h.inner j hj).congr (fun d hd => by rw [hG j d hj hd]), h.far, h.hlo, h.inj⟩
/-- What is left behind k steps, and behind q artists of the next. -/
def H.lft (T : List (List Int)) (L : List Stp) (k : Nat) (i d : Nat) : Int := H.el T i d - H.dn (L.take k) i d
def H.lfq (T : List (List Int)) (L : List Stp) (k : Nat) (p : Stp) (q : Nat) (i d : Nat) : Int := H.lft T L k i d - if i < q ∧ p.2.getD i (-1) = (d : Int) then p.1 else 0
theorem H.lfq_zero (T : List (List Int)) (L : List Stp) (k : Nat) (p : Stp) (i d : Nat) : H.lfq T L k p 0 i d = H.lft T L k i d := by
  unfold H.lfq
  rw [if_neg (fun h => Nat.not_lt_zero _ h.1), Int.sub_zero]
theorem H.lfq_last {T : List (List Int)} {L : List Stp} {k m : Nat} (h : k < L.length) {i d : Nat} (hi : i < m) : H.lft T L (k + 1) i d = H.lfq T L k L[k] m i d := by
  unfold H.lfq H.lft
  rw [H.dn_take h]
  by_cases e : L[k].2.getD i (-1) = (d : Int)
  · rw [if_pos e, if_pos ⟨hi, e⟩]; omega
  · rw [if_neg e, if_neg (fun q => e q.2)]; omega
theorem H.lfq_idle {T : List (List Int)} {L : List Stp} {k q : Nat} {p : Stp} (he : p.2.getD q (-1) = -1) (i d : Nat) : H.lfq T L k p (q + 1) i d = H.lfq T L k p q i d := by
  unfold H.lfq
  by_cases e : i < q ∧ p.2.getD i (-1) = (d : Int)
  · rw [if_pos e, if_pos ⟨by omega, e.2⟩]
  · rw [if_neg e, if_neg (fun h => ?_)]
    by_cases ei : i = q
    · subst ei; have := h.2; rw [he] at this; omega
    · exact e ⟨by omega, h.2⟩
theorem H.lfq_work {T : List (List Int)} {L : List Stp} {k q X : Nat} {p : Stp} (he : p.2.getD q (-1) = (X : Int)) (i d : Nat) : H.lfq T L k p (q + 1) i d = if i = q ∧ d = X then H.lfq T L k p q q X - p.1 else H.lfq T L k p q i d := by
  unfold H.lfq
  by_cases e : i = q ∧ d = X
  · obtain ⟨rfl, rfl⟩ := e
    have a1 : i < i + 1 ∧ p.2.getD i (-1) = (d : Int) := ⟨Nat.lt_succ_self _, he⟩
    have a2 : ¬ (i < i ∧ p.2.getD i (-1) = (d : Int)) := fun h => Nat.lt_irrefl _ h.1
    have a3 : i = i ∧ d = d := ⟨rfl, rfl⟩
    rw [if_pos a1, if_pos a3, if_neg a2]
    omega
  · rw [if_neg e]
    congr 1
    by_cases ei : i = q
    · subst ei
      rw [if_neg (fun h => e ⟨rfl, by have := h.2; rw [he] at this; omega⟩), if_neg (fun h => Nat.lt_irrefl _ h.1)]
    · by_cases e2 : i < q ∧ p.2.getD i (-1) = (d : Int)
      · rw [if_pos e2, if_pos ⟨by omega, e2.2⟩]
      · rw [if_neg e2, if_neg (fun h => e2 ⟨by omega, h.2⟩)]
/-- Whether steps serve a work. -/
def H.srv (T : List (List Int)) (L : List Stp) : Bool := decide (∀ i, i < T.length → ∀ d, d < H.wid T → H.lft T L L.length i d = 0)
theorem H.el_bd {T : List (List Int)} (hok : H.Ok T) {i d : Nat} (hi : i < T.length) (hd : d < H.wid T) : 0 ≤ H.el T i d ∧ H.el T i d ≤ 30 := by
  have hl : d < T[i].length := by rw [hok.row _ (List.getElem_mem hi)]; exact hd
  rw [H.el_get hi hl]
  exact hok.hrs _ (List.getElem_mem hi) _ (List.getElem_mem hl)

set_option maxHeartbeats 8000000 in
set_option maxRecDepth 100000 in
theorem serves_any (sa : Option Addr) (sc : Nat) (L : List Stp) (a : Option Addr) (c : Nat) (T : List (List Int)) (w : World) (hok : H.Ok T) (hl : L.length ≤ 200) (hh : ∀ p ∈ L, 1 ≤ p.1 ∧ p.1 ≤ 1100)
    (hp : ∀ p ∈ L, p.2.length = T.length ∧ ∀ x ∈ p.2, H.okp (H.wid T) x) (hs : RdS w sa L) (hx : RdM w a T) :
    Calls Try.prog 101 #[.slice sa L.length sc, .slice a T.length c] w fun e w' => e = .returned (.bool (H.srv T L)) ∧ Below w.heap.size w w' := by
  have h1 := hok.m1
  have h6 := hok.m6
  have n1 := hok.n1
  have n6 := hok.n6
  have HCP := hid (copied_any a c T w hok hx)
  have HS := hid hs
  have HEL := hid (fun i d (hi : i < T.length) (hd : d < H.wid T) => H.el_bd hok hi hd)
  have HDN := hid (fun k i d => show 0 ≤ H.dn (L.take k) i d ∧ H.dn (L.take k) i d ≤ 220000 from by
    have := H.dn_bd (L := L.take k) (fun p hp => hh p (List.mem_of_mem_take hp)) i d
    have h2 : (L.take k).length ≤ 200 := by rw [List.length_take]; omega
    omega)
  have HLB := hid (fun k i d (hi : i < T.length) (hd : d < H.wid T) => show -220000 ≤ H.lft T L k i d ∧ H.lft T L k i d ≤ 30 from by
    have e1 := HEL.out i d hi hd
    have e2 := HDN.out k i d
    unfold H.lft
    omega)
  have HH := hid (fun k (h : k < L.length) => hh L[k] (List.getElem_mem h))
  have HP := hid (fun k (h : k < L.length) => hp L[k] (List.getElem_mem h))
  have HSV : Hid (H.srv T L = decide (∀ i, i < T.length → ∀ d, d < H.wid T → H.lft T L L.length i d = 0)) := hid rfl
  have HL0 := hid (fun i d => show H.lft T L 0 i d = H.el T i d from by unfold H.lft; rw [List.take_zero]; show H.el T i d - 0 = _; omega)
  unfold H.CpE at HCP
  clear hx hs hh hp hok HDN HEL
  generalize H.srv T L = R at *
  generalize T.length = m at *
  generalize H.wid T = n at *
  go_enter Try.func101, Try.ntmps101
  go_wp2_with fail
  refine HCP.out.mono ?_
  rintro e wc ⟨bo, ib, rfl, hO0, hb0⟩
  have HO0 := hid (hO0.congr (G := H.lft T L 0) (fun i d _ _ => HL0.out i d))
  have HB0 := hid hb0
  clear hO0 hb0 HCP HL0
  go_wp2
  go_loopw [18] (fun i wr => ∃ k : Nat, k ≤ L.length ∧ i = .int .i64 k ∧ H.OM wr w.heap.size bo m n ib (H.lft T L k) m ∧ Below w.heap.size w wr) (fun i _ => L.length - (intOf i).toNat)
  case atStart => exact ⟨0, Nat.zero_le _, rfl, HO0.out, HB0.out⟩
  case round =>
    obtain ⟨k, hk, rfl, hO, hb⟩ := hrel
    have HO := hid hO
    have HB := hid hb
    by_cases hlt : k < L.length
    · obtain ⟨b, off, r, rc, rfl, q1w, q2w, hrw⟩ := HS.out k hlt
      have q1 := cell_stays hb (Nat.le_refl _) q1w
      have q2 := cell_stays hb (Nat.le_refl _) q2w
      have hpl := (HP.out k hlt).1
      have HPX := hid (HP.out k hlt).2
      have hhk := HH.out k hlt
      have HRW := hid hrw
      have HLL := hid (fun i d (hi : i < m) => H.lfq_last (T := T) (d := d) hlt hi)
      have HZ := hid (fun i d => H.lfq_zero T L k L[k] i d)
      have HID := hid (fun q (he : L[k].2.getD q (-1) = -1) i d => H.lfq_idle (T := T) (L := L) (k := k) he i d)
      have HWO := hid (fun q X (he : L[k].2.getD q (-1) = ((X : Nat) : Int)) i d => H.lfq_work (T := T) (L := L) (k := k) he i d)
      have HLQ := hid (fun q i d (hi : i < m) (hd : d < n) => show -230000 ≤ H.lfq T L k L[k] q i d ∧ H.lfq T L k L[k] q i d ≤ 30 from by
        have := HLB.out k i d hi hd
        unfold H.lfq
        split <;> omega)
      have hix : (0 : Int) ≤ (k : Int) ∧ (k : Int) < (L.length : Int) := by omega
      rw [hpl] at q2
      clear hO hb q1w q2w hrw
      generalize L[k] = p at *
      obtain ⟨h, l⟩ := p
      simp only at q1 q2 hpl HPX hhk HRW
      have HG0 : Hid ((wr.alloc (.cells #[.int .i64 h, .slice r m rc] 47)).cell? ⟨wr.heap.size, 0, none⟩ = some (.int .i64 h)) := hid (by rw [World.cell?_alloc_at _ _ _ _ rfl]; rfl)
      have HO1 := hid ((HO.out.grown ((Below.refl _ wr).alloc (Nat.le_refl _) (.cells #[.int .i64 h, .slice r m rc] 47))).congr (G := H.lfq T L k (h, l) 0) (fun i d _ _ => HZ.out i d))
      have HB1 := hid (HB.out.alloc HB.out.size (.cells #[.int .i64 h, .slice r m rc] 47))
      have HIG := hid (fun j (hj : j < m) => (HO.out.inner j hj).lt)
      go_wp2
      generalize wr.alloc (.cells #[.int .i64 h, .slice r m rc] 47) = wb at *
      generalize wr.heap.size = g at *
      go_loopw [25] (fun j wi => ∃ q : Nat, q ≤ m ∧ j = .int .i64 q ∧ H.OM wi w.heap.size bo m n ib (H.lfq T L k (h, l) q) m ∧ wi.cell? ⟨g, 0, none⟩ = some (.int .i64 h) ∧ Below w.heap.size w wi) (fun j _ => m - (intOf j).toNat)
      case atStart => exact ⟨0, Nat.zero_le _, rfl, HO1.out, HG0.out, HB1.out⟩
      case round =>
        obtain ⟨q, hq, rfl, hOi, hg, hbi⟩ := hrel
        have HOI := hid hOi
        have HBI := hid hbi
        by_cases hqm : q < m
        · have hql : q < l.length := by omega
          obtain ⟨bx, ox, rfl, hcx⟩ := HRW.out q hql
          have c1 := cell_stays hbi (Nat.le_refl _) hcx
          have hop := HPX.out _ (List.getElem_mem hql)
          have hgd : l.getD q (-1) = l[q] := by rw [List.getD_eq_getElem?_getD, List.getElem?_eq_getElem hql]; rfl
          have HGD := hid hgd
          have hqx : (0 : Int) ≤ (q : Int) ∧ (q : Int) < (m : Int) := by omega
          clear hcx hgd
          generalize l[q] = x at *
          by_cases hx1 : x = -1
          · subst hx1
            have HO2 := hid (HOI.out.congr (G := H.lfq T L k (h, l) (q + 1)) (fun i d _ _ => HID.out q HGD.out i d))
            have HG2 := hid hg
            clear hOi hbi hg
            go_wp2
            go_roundw
            case rel => exact ⟨q + 1, by omega, by go_num, HO2.out, HG2.out, HBI.out⟩
            case measure => simp [intOf]; omega
          · obtain ⟨X, rfl⟩ : ∃ X : Nat, x = (X : Int) := ⟨x.toNat, by rcases hop with hop | hop <;> omega⟩
            have hXn : X < n := by rcases hop with hop | hop <;> omega
            have y1 := hOi.row hqm hqm
            have y2 := (hOi.inner q hqm).cell hXn
            have y3 := (hOi.inner q hqm).frozen X
            have hlq := HLQ.out q q X hqm hXn
            have HP2 := hid (HOI.out.put hqm (j := X) (z := H.lfq T L k (h, l) q q X - h) (G := H.lfq T L k (h, l) (q + 1)) (fun i d _ _ => HWO.out q X HGD.out i d))
            have hgi : g ≠ ib q := fun e => by have := HIG.out q hqm; omega
            have HG2 : Hid (∀ v : Value, (wr.setCell ⟨ib q, X, none⟩ v).cell? ⟨g, 0, none⟩ = some (.int .i64 h)) := hid fun v => (World.cell?_of_block (Below.heap_setCell _ _ _ _ hgi)).trans hg
            have HB2 := hid (Below.setCell HBI.out (p := ⟨ib q, X, none⟩) (HOI.out.far q hqm).1 (.int .i64 (H.lfq T L k (h, l) q q X - h)))
            generalize H.lfq T L k (h, l) q q X = y at *
            have hwr : IntKind.i64.wrap (y - h) = y - h := IntWalk.i64_in _ (by omega)
            have hXx : (0 : Int) ≤ (X : Int) ∧ (X : Int) < (n : Int) := by omega
            clear hOi hbi
            go_wp2
            go_region
            all_goals (try go_wp2)
            all_goals
              go_roundw
              case rel => exact ⟨q + 1, by omega, by go_num, HP2.out.grown (by exact below_drewN (Below.refl _ _) _), HG2.out _, below_drewN HB2.out _⟩
              case measure => simp [intOf]; omega
        · obtain rfl : m = q := by omega
          have HO2 := hid (HOI.out.congr (G := H.lft T L (k + 1)) (fun i d hi _ => HLL.out i d hi))
          clear hOi hg hbi
          go_wp2
          go_roundw
          case rel => exact ⟨k + 1, by omega, by go_num, HO2.out, HBI.out⟩
          case measure => simp [intOf]; omega
    · obtain rfl : L.length = k := by omega
      clear hb hO HLB HH HP
      go_wp2
      go_loop [47] (fun i => ∃ x : Nat, x ≤ m ∧ i = .int .i64 x ∧ ∀ i', i' < x → ∀ d, d < n → H.lft T L L.length i' d = 0) (fun i => m - (intOf i).toNat)
      case atStart => exact ⟨0, Nat.zero_le _, rfl, fun i' hi' => absurd hi' (Nat.not_lt_zero _)⟩
      case round =>
        obtain ⟨x, hx, rfl, hall⟩ := hrel
        have HAL := hid hall
        clear hall
        by_cases hxm : x < m
        · have y1 := HO.out.row hxm hxm
          have hxx : (0 : Int) ≤ (x : Int) ∧ (x : Int) < (m : Int) := by omega
          go_wp2
          clear y1
          go_loop [53] (fun j => ∃ d : Nat, d ≤ n ∧ j = .int .i64 d ∧ ∀ d', d' < d → H.lft T L L.length x d' = 0) (fun j => n - (intOf j).toNat)
          case atStart => exact ⟨0, Nat.zero_le _, rfl, fun d' hd' => absurd hd' (Nat.not_lt_zero _)⟩
          case round =>
            obtain ⟨d, hd, rfl, hrow⟩ := hrel
            have HRO := hid hrow
            clear hrow
            by_cases hdn : d < n
            · have y2 := (HO.out.inner x hxm).cell hdn
              have hdx : (0 : Int) ≤ (d : Int) ∧ (d : Int) < (n : Int) := by omega
              have HDF := hid (show H.lft T L L.length x d ≠ 0 → R = false from fun hne => by
                rw [HSV.out]
                exact decide_eq_false (fun h => hne (h x hxm d hdn)))
              have HD0 := hid (show H.lft T L L.length x d = 0 → ∀ d', d' < d + 1 → H.lft T L L.length x d' = 0 from fun h0 d' hd' => by
                by_cases e : d' = d
                · subst e; exact h0
                · exact HRO.out d' (by omega))
              generalize H.lft T L L.length x d = z at *
              by_cases hz : z = 0
              · have HD1 := hid (HD0.out hz)
                subst hz
                clear HDF HD0
                go_wp2
                go_round
                case rel => exact ⟨d + 1, by omega, by go_num, HD1.out⟩
                case measure => simp [intOf]; omega
              · have HRF := hid (HDF.out hz)
                clear HDF HD0
                go_wp2
                go_ret
                exact ⟨ret_bool HRF.out.symm, HB.out⟩
            · obtain rfl : n = d := by omega
              go_wp2
              go_round
              case rel => exact ⟨x + 1, by omega, by go_num, fun i' hi' d' hd' => by
                by_cases e : i' = x
                · subst e; exact HRO.out d' hd'
                · exact HAL.out i' (by omega) d' hd'⟩
              case measure => simp [intOf]; omega
        · obtain rfl : m = x := by omega
          have HRT : Hid (R = true) := hid (by rw [HSV.out]; exact decide_eq_true (fun i hi d hd => HAL.out i hi d hd))
          go_wp2
          go_ret
          exact ⟨ret_bool HRT.out.symm, HB.out⟩
end Go.Proofs.Ythlcnklbeolhpaa
