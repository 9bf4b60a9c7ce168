/- The reference of hours: the walk of Length. -/
import Derived.Test.YthlcnklbeolhpaaHGvn
import Derived.Test.YthlcnklbeolhpaaHRef1
import Derived.BigQuiet
import Derived.BigRegion
import Derived.RegionTactic
namespace Go.Proofs.Ythlcnklbeolhpaa
open Go.RowKit

/-- The hours done, as what is not left. -/
def H.don (T : List (List Int)) (L : List Stp) (k : Nat) (i d : Nat) : Int := H.el T i d - H.lft T L k i d
def H.doq (T : List (List Int)) (L : List Stp) (k : Nat) (p : Stp) (q i d : Nat) : Int := H.el T i d - H.lfq T L k p q i d
theorem H.don_zero (T : List (List Int)) (L : List Stp) (i d : Nat) : H.don T L 0 i d = 0 := by
  unfold H.don H.lft
  rw [List.take_zero]
  show H.el T i d - (H.el T i d - 0) = 0
  omega
theorem H.don_bd {T : List (List Int)} {L : List Stp} {k : Nat} (hh : ∀ j (h : j < L.length), j < k → 1 ≤ L[j].1 ∧ L[j].1 ≤ 1100) (hk : k ≤ 200) (hkl : k ≤ L.length) (i d : Nat) : 0 ≤ H.don T L k i d ∧ H.don T L k i d ≤ 220000 := by
  have := H.dn_bd (L := L.take k) (fun p hp => by
    obtain ⟨j, hj, rfl⟩ := List.mem_iff_getElem.1 hp
    rw [List.length_take] at hj
    rw [List.getElem_take]
    exact hh j (by omega) (by omega)) i d
  have h2 : (L.take k).length ≤ 200 := by rw [List.length_take]; omega
  unfold H.don H.lft
  omega
theorem H.doq_bd {T : List (List Int)} {L : List Stp} {k q : Nat} {p : Stp} {i d : Nat} (h : 0 ≤ H.don T L k i d ∧ H.don T L k i d ≤ 220000) (hp : 1 ≤ p.1 ∧ p.1 ≤ 1100) : 0 ≤ H.doq T L k p q i d ∧ H.doq T L k p q i d ≤ 230000 := by
  unfold H.don at h
  unfold H.doq H.lfq
  split <;> omega
/-- A row of nothing more. -/
theorem H.OM.zero {w : World} {lo bo m n p : Nat} {ib : Nat → Nat} {F : Nat → Nat → Int} (h : H.OM w lo bo m n ib F p) (hF : ∀ d, d < n → F p d = 0) :
    ∃ ib', H.OM ((w.setCell ⟨bo, p, none⟩ (.slice (some ⟨w.heap.size, 0, none⟩) n n)).alloc (.cells (madeCells #[.int .i64 0] n) 3)) lo bo m n ib' F (p + 1) := by
  refine h.more (Below.refl _ _) ?_
  have := World.rowIs_made (w.setCell ⟨bo, p, none⟩ (.slice (some ⟨w.heap.size, 0, none⟩) n n)) (.int .i64 0) n 3
  rw [show (w.setCell ⟨bo, p, none⟩ (.slice (some ⟨w.heap.size, 0, none⟩) n n)).heap.size = w.heap.size by simp] at this
  exact this.congr (fun d hd => by rw [hF d hd])
/-- What is known within a step. -/
structure H.WI (w wi : World) (bo m n : Nat) (ib : Nat → Nat) (F : Nat → Nat → Int) (g : Nat) (h : Int) (r : Option Addr) (rc : Nat) : Prop where
  om : H.OM wi w.heap.size bo m n ib F m
  h0 : wi.cell? ⟨g, 0, none⟩ = some (.int .i64 h)
  h1 : wi.cell? ⟨g, 1, none⟩ = some (.slice r m rc)
  below : Below w.heap.size w wi
  ibg : ∀ j, j < m → ib j < g
theorem H.OM.drewN {w : World} {lo bo m n p : Nat} {ib : Nat → Nat} {F : Nat → Nat → Int} (h : H.OM w lo bo m n ib F p) (q : Nat) : H.OM (w.drewN q) lo bo m n ib F p := ⟨h.outer, h.inner, h.far, h.hlo, h.inj⟩
theorem H.WI.drewN {w wi : World} {bo m n : Nat} {ib : Nat → Nat} {F : Nat → Nat → Int} {g : Nat} {h : Int} {r : Option Addr} {rc : Nat} (k : H.WI w wi bo m n ib F g h r rc) (q : Nat) : H.WI w (wi.drewN q) bo m n ib F g h r rc :=
  ⟨k.om.drewN q, k.h0, k.h1, below_drewN k.below q, k.ibg⟩
theorem H.WI.put {w wi : World} {bo m n : Nat} {ib : Nat → Nat} {F G : Nat → Nat → Int} {g : Nat} {h : Int} {r : Option Addr} {rc : Nat} (k : H.WI w wi bo m n ib F g h r rc) {i j : Nat} (hi : i < m) {z : Int} (hG : ∀ x y, x < m → y < n → G x y = if x = i ∧ y = j then z else F x y) : H.WI w (wi.setCell ⟨ib i, j, none⟩ (.int .i64 z)) bo m n ib G g h r rc := by
  have hne : g ≠ ib i := fun e => by have := k.ibg i hi; omega
  exact ⟨k.om.put hi hG, (World.cell?_of_block (Below.heap_setCell _ _ _ _ hne)).trans k.h0, (World.cell?_of_block (Below.heap_setCell _ _ _ _ hne)).trans k.h1, Below.setCell k.below (p := ⟨ib i, j, none⟩) (k.om.far i hi).1 _, k.ibg⟩
theorem H.WI.congr {w wi : World} {bo m n : Nat} {ib : Nat → Nat} {F G : Nat → Nat → Int} {g : Nat} {h : Int} {r : Option Addr} {rc : Nat} (k : H.WI w wi bo m n ib F g h r rc) (hG : ∀ i d, i < m → d < n → G i d = F i d) : H.WI w wi bo m n ib G g h r rc := ⟨k.om.congr hG, k.h0, k.h1, k.below, k.ibg⟩

set_option maxHeartbeats 16000000 in
set_option maxRecDepth 100000 in
theorem refLength_any (a : Option Addr) (c : Nat) (T : List (List Int)) (s : Int) (sa : Option Addr) (sc : Nat) (L : List Stp) (w : World) (hm : T.length ≤ maxLen) (hl : ∀ i (h : i < T.length), T[i].length ≤ maxLen) (hL : L.length ≤ 300) (hA : ∀ p ∈ L, p.2.length ≤ 20) (hx : RdM w a T) (hs : RdS w sa L) :
    Calls Try.prog 32 #[.slice a T.length c, .int .i64 s, .slice sa L.length sc] w fun e w' => e = .returned (.tuple #[.int .i64 (H.lgt T s L), .int .i64 (H.pln T s L)]) ∧ Below w.heap.size w w' := by
  have HC := hid (checked_any a c T s w hm hl hx)
  by_cases hc : H.chks T s = 0
  · obtain ⟨hok, hs1, hs6⟩ := H.chks_ok hc
    rw [hc] at HC
    by_cases h200 : 200 < L.length
    · have hR : H.pln T s L = 2 := by unfold H.pln; rw [if_neg (by simpa using hc), if_pos h200]
      have HR2 : Hid (H.lgt T s L = 0) := hid (by unfold H.lgt; rw [hR, if_neg (by decide)])
      rw [HR2.out, hR]
      have h2 : (200 : Int) < (L.length : Int) := by omega
      clear hx hs hA hl hok hc hR
      go_enter Try.func32, Try.ntmps32
      go_wp2_with fail
      refine HC.out.mono ?_
      rintro e w' ⟨rfl, q, rfl⟩
      go_wp2
      go_ret2
      exact ⟨rfl, below_drewN (Below.refl _ _) _⟩
    · have HST : Hid (H.pln T s L = if H.ste T.length (H.wid T) s L ≠ 0 then H.ste T.length (H.wid T) s L else if H.srv T L = true then 0 else 13) := hid (by unfold H.pln; rw [if_neg (by simpa using hc), if_neg h200])
      have HLG : Hid (H.lgt T s L = if H.pln T s L = 0 then H.len L else 0) := hid rfl
      have HERR := hid (show ∀ k (hk : k < L.length), (∀ j (h : j < L.length), j < k → H.stp T.length (H.wid T) s L[j] = 0) → H.stp T.length (H.wid T) s L[k] ≠ 0 → H.pln T s L = H.stp T.length (H.wid T) s L[k] ∧ H.lgt T s L = 0 from fun k hk h0 he => by
        have e := H.ste_hit hk h0 he
        have e2 : H.pln T s L = H.stp T.length (H.wid T) s L[k] := by rw [HST.out, if_pos (by rw [e]; exact he), e]
        exact ⟨e2, by rw [HLG.out, e2, if_neg he]⟩)
      have HEND := hid (show (∀ j (h : j < L.length), H.stp T.length (H.wid T) s L[j] = 0) → (H.srv T L = true → H.pln T s L = 0 ∧ H.lgt T s L = H.len L) ∧ (H.srv T L = false → H.pln T s L = 13 ∧ H.lgt T s L = 0) from fun h0 => by
        have e := H.ste_none h0
        constructor
        · intro hs
          have e2 : H.pln T s L = 0 := by rw [HST.out, if_neg (by simpa using e), if_pos hs]
          exact ⟨e2, by rw [HLG.out, if_pos e2]⟩
        · intro hs
          have e2 : H.pln T s L = 13 := by rw [HST.out, if_neg (by simpa using e), if_neg (by rw [hs]; decide)]
          exact ⟨e2, by rw [HLG.out, if_neg (by rw [e2]; decide)]⟩)
      have HSV : Hid (H.srv T L = decide (∀ i, i < T.length → ∀ d, d < H.wid T → H.lft T L L.length i d = 0)) := hid rfl
      have h1 := hok.m1
      have h6 := hok.m6
      have n1 := hok.n1
      have n6 := hok.n6
      have HS := hid hs
      obtain ⟨b0, o0, r0, c0, rfl, q0, hq0⟩ := hx 0 (by omega)
      have HCW := hid (show ∀ i, i < T.length → ∃ b' o' c', w.cell? ⟨b0, o0 + i, none⟩ = some (.slice (some ⟨b', o', none⟩) (H.wid T) c') ∧ ∀ d, d < H.wid T → w.cell? ⟨b', o' + d, none⟩ = some (.int .i64 (H.el T i d)) from fun i hi => by
        obtain ⟨b1, o1, r1, c1, e1, k1, k2⟩ := hx i hi
        simp only [Option.some.injEq, Addr.mk.injEq, and_true] at e1
        obtain ⟨rfl, rfl⟩ := e1
        have hrl : T[i].length = H.wid T := hok.row _ (List.getElem_mem hi)
        obtain ⟨b2, o2, rfl, _⟩ := k2 0 (by omega)
        refine ⟨b2, o2, c1, by rw [← hrl]; exact k1, fun d hd => ?_⟩
        have hd' : d < T[i].length := by omega
        obtain ⟨b3, o3, e3, k3⟩ := k2 d hd'
        simp only [Option.some.injEq, Addr.mk.injEq, and_true] at e3
        obtain ⟨rfl, rfl⟩ := e3
        rw [k3, H.el_get hi hd'])
      rw [Nat.add_zero, ← H.wid_eq (T := T) (by omega)] at q0
      have Q0 := hid q0
      have HAL := hid (fun k (h : k < L.length) => hA L[k] (List.getElem_mem h))
      clear hx hs hA hl hok hc HST HLG q0 hq0
      generalize H.pln T s L = R at *
      generalize H.lgt T s L = G at *
      generalize hTm : T.length = m at *
      generalize hTn : H.wid T = n at *
      have hmk := run_make_row' (P := Try.prog) 22 27 (.slice none 0 0) 24 Try.underlying22 (by kernel_rfl) rfl .i64 .i64 m (by omega) (by omega)
      have hmk2 := run_make_row' (P := Try.prog) 27 3 (.int .i64 0) 8 Try.underlying27 (by kernel_rfl) rfl .i64 .i64 n (by omega) (by omega)
      have h2 : ¬ (200 : Int) < (L.length : Int) := by omega
      have hm0 : (0 : Int) < (m : Int) := by omega
      go_enter Try.func32, Try.ntmps32
      go_wp2_with fail
      refine HC.out.mono ?_
      rintro e w' ⟨rfl, q, rfl⟩
      have HBQ := hid (below_drewN (Below.refl w.heap.size w) q)
      generalize w.drewN q = wq at *
      have HSM := hid (H.OM.start (w := wq) (lo := w.heap.size) (m := m) (n := n) (ib := fun _ => 0) (F := H.don T L 0) HBQ.out.size)
      have HBM := hid (HBQ.out.alloc HBQ.out.size (.cells (madeCells #[.slice none 0 0] m) 27))
      go_wp2
      clear hmk
      generalize wq.alloc (.cells (madeCells #[.slice none 0 0] m) 27) = ws at *
      generalize wq.heap.size = bo at *
      go_loopw [10] (fun i wr => ∃ (k : Nat) (ib : Nat → Nat), k ≤ m ∧ i = .int .i64 k ∧ H.OM wr w.heap.size bo m n ib (H.don T L 0) k ∧ Below w.heap.size w wr) (fun i _ => m - (intOf i).toNat)
      case atStart => exact ⟨0, _, Nat.zero_le _, rfl, HSM.out, HBM.out⟩
      case round =>
        obtain ⟨k, ib, hk, rfl, hO, hb⟩ := hrel
        have HO := hid hO
        have HB := hid hb
        by_cases hlt : k < m
        · have q0 := cell_stays hb (Nat.le_refl _) Q0.out
          have t1 := hO.outer.cell hlt
          rw [if_neg (Nat.lt_irrefl _)] at t1
          have t2 := hO.outer.frozen k
          have hNl := hO.outer.lt
          have HT1 := hid (show ∀ o : Obj, (wr.alloc o).cell? ⟨bo, k, none⟩ = some (.slice none 0 0) ∧ (wr.alloc o).frozen? ⟨bo, k, none⟩ = false from fun o =>
            ⟨(World.cell?_of_block (Below.heap_alloc _ _ _ hNl)).trans t1, (World.frozen?_of_block (Below.heap_alloc _ _ _ hNl)).trans t2⟩)
          have u1 := (HT1.out (.cells (madeCells #[.int .i64 0] n) 3)).1
          have u2 := (HT1.out (.cells (madeCells #[.int .i64 0] n) 3)).2
          obtain ⟨ib', hO'⟩ := hO.zero (fun d _ => H.don_zero T L k d)
          have HO2 := hid hO'
          have HB2 : Hid (Below w.heap.size w ((wr.setCell ⟨bo, k, none⟩ (.slice (some ⟨wr.heap.size, 0, none⟩) n n)).alloc (.cells (madeCells #[.int .i64 0] n) 3))) := hid ((hb.setCell (p := ⟨bo, k, none⟩) hO.hlo _).alloc (by have := hb.size; simpa using this) _)
          have hix : (0 : Int) ≤ (k : Int) ∧ (k : Int) < (m : Int) := by omega
          clear hO hb hO' HT1
          go_wp2
          go_roundw
          case rel => exact ⟨k + 1, ib', by omega, by go_num, HO2.out, HB2.out⟩
          case measure => simp [intOf]; omega
        · obtain rfl : m = k := by omega
          clear hO hb hmk2
          go_wp2
          go_loopw [11, 12] (fun ln i wr => ∃ k : Nat, k ≤ L.length ∧ i = .int .i64 k ∧ ln = .int .i64 (H.len (L.take k)) ∧ (∀ j (hj : j < L.length), j < k → H.stp m n s L[j] = 0) ∧ H.OM wr w.heap.size bo m n ib (H.don T L k) m ∧ Below w.heap.size w wr) (fun _ i _ => L.length - (intOf i).toNat)
          case atStart => exact ⟨0, Nat.zero_le _, rfl, by rw [List.take_zero]; rfl, fun j _ hj => absurd hj (Nat.not_lt_zero _), HO.out, HB.out⟩
          case round =>
            clear HO HB
            obtain ⟨k, hk, rfl, rfl, hall, hO, hb⟩ := hrel
            have HO := hid hO
            have HB := hid hb
            have HALL := hid hall
            by_cases hlt : k < L.length
            · obtain ⟨b, off, r, rc, rfl, q1w, q2w, hrw⟩ := HS.out k hlt
              have q1 := cell_stays hb (Nat.le_refl _) q1w
              have q2 := cell_stays hb (Nat.le_refl _) q2w
              have hpl := HAL.out k hlt
              have HER := hid (HERR.out k hlt HALL.out)
              have HLT := hid (H.len_take hlt)
              have HHJ : Hid (∀ i d, 0 ≤ H.don T L k i d ∧ H.don T L k i d ≤ 220000) := hid (fun i d => H.don_bd (fun j h hj => (H.stp_ok (HALL.out j h hj)).2.1) (by omega) hk i d)
              have HLB : Hid (0 ≤ H.len (L.take k) ∧ H.len (L.take k) ≤ 220000) := hid (by
                have := H.len_bd (L := L.take k) (fun p hp => by
                  obtain ⟨j, hj, rfl⟩ := List.mem_iff_getElem.1 hp
                  rw [List.length_take] at hj
                  rw [List.getElem_take]
                  exact (H.stp_ok (HALL.out j (by omega) (by omega))).2.1)
                have h2 : (L.take k).length ≤ 200 := by rw [List.length_take]; omega
                omega)
              have HNX := hid (show H.stp m n s L[k] = 0 → ∀ j (hj : j < L.length), j < k + 1 → H.stp m n s L[j] = 0 from fun h0 j hj hjk => by
                by_cases e : j = k
                · subst e; exact h0
                · exact HALL.out j hj (by omega))
              have HLL := hid (fun i d (hi : i < m) => show H.don T L (k + 1) i d = H.doq T L k L[k] m i d from by unfold H.don H.doq; rw [H.lfq_last hlt hi])
              have HZ := hid (fun i d => show H.doq T L k L[k] 0 i d = H.don T L k i d from by unfold H.don H.doq; rw [H.lfq_zero])
              have HID := hid (fun q (he : L[k].2.getD q (-1) = -1) i d => show H.doq T L k L[k] (q + 1) i d = H.doq T L k L[k] q i d from by unfold H.doq; rw [H.lfq_idle he])
              have HWO := hid (fun q X (he : L[k].2.getD q (-1) = ((X : Nat) : Int)) i d => show H.doq T L k L[k] (q + 1) i d = if i = q ∧ d = X then H.doq T L k L[k] q q X + L[k].1 else H.doq T L k L[k] q i d from by
                unfold H.doq
                rw [H.lfq_work he]
                by_cases e : i = q ∧ d = X
                · obtain ⟨rfl, rfl⟩ := e
                  rw [if_pos ⟨rfl, rfl⟩, if_pos ⟨rfl, rfl⟩]; omega
                · rw [if_neg e, if_neg e])
              have HRW := hid hrw
              have hix : (0 : Int) ≤ (k : Int) ∧ (k : Int) < (L.length : Int) := by omega
              clear hb hO hall q1w q2w hrw
              generalize L[k] = p at *
              obtain ⟨h, l⟩ := p
              simp only at q1 q2 hpl HRW HID HWO HLT
              have HSTP : Hid (H.stp m n s (h, l) = if l.length ≠ m then 3 else if h < 1 ∨ 1100 < h then 4 else if ¬ ∀ x ∈ l, H.okp n x then 5 else if H.dup l = true then 6 else if s < (H.wk l : Int) then 16 else 0) := hid rfl
              generalize H.stp m n s (h, l) = z at *
              have HBA := hid (HB.out.alloc HB.out.size (.cells #[.int .i64 h, .slice r l.length rc] 106))
              by_cases e1 : l.length = m
              · have HWI : Hid (H.WI w (wr.alloc (.cells #[.int .i64 h, .slice r l.length rc] 106)) bo m n ib (H.don T L k) wr.heap.size h r rc) := hid ⟨HO.out.grown ((Below.refl _ wr).alloc (Nat.le_refl _) _), by rw [World.cell?_alloc_at _ _ _ _ rfl]; rfl, by rw [World.cell?_alloc_at _ _ _ _ rfl, ← e1]; rfl, HBA.out, fun j hj => (HO.out.inner j hj).lt⟩
                have HS2 : Hid (z = if h < 1 ∨ 1100 < h then 4 else if ¬ ∀ x ∈ l, H.okp n x then 5 else if H.dup l = true then 6 else if s < (H.wk l : Int) then 16 else 0) := hid (by rw [HSTP.out, if_neg (by simpa using e1)])
                have d1 : ((l.length : Int) != (m : Int)) = false := by rw [bne_eq_false_iff_eq]; omega
                have HI1 := hid (fun W => is_any h 1 1100 W)
                have E1 := hid e1
                clear HSTP e1
                cases hib : H.isb h 1 1100 with
                | false =>
                  have hz : z = 4 := by
                    rw [HS2.out, if_pos]
                    have := of_decide_eq_false hib
                    omega
                  have HE := hid (HER.out (by rw [hz]; decide))
                  subst hz
                  rw [hib] at HI1
                  clear HER HS2 HNX hib
                  go_wp2_with fail
                  refine (HI1.out _).mono ?_
                  rintro e w' ⟨rfl, rfl⟩
                  go_wp2
                  go_ret2
                  exact ⟨ret_int2 HE.out.2.symm HE.out.1.symm, HBA.out⟩
                | true =>
                  have hh := of_decide_eq_true hib
                  have HS3 : Hid (z = if ¬ ∀ x ∈ l, H.okp n x then 5 else if H.dup l = true then 6 else if s < (H.wk l : Int) then 16 else 0) := hid (by rw [HS2.out, if_neg (by omega)])
                  rw [hib] at HI1
                  clear hib HS2
                  go_wp2_with fail
                  refine (HI1.out _).mono ?_
                  rintro e w' ⟨rfl, rfl⟩
                  go_wp2
                  clear q1 q2 HI1
                  generalize wr.alloc (.cells #[.int .i64 h, .slice r l.length rc] 106) = wb at *
                  generalize wr.heap.size = g at *
                  go_loopw [14, 15] (fun wk i wi => ∃ q : Nat, q ≤ m ∧ i = .int .i64 q ∧ wk = .int .i64 (H.wk (l.take q) : Nat) ∧ (∀ j (hj : j < l.length), j < q → H.okp n l[j]) ∧ H.WI w wi bo m n ib (H.don T L k) g h r rc) (fun _ i _ => m - (intOf i).toNat)
                  case atStart => exact ⟨0, Nat.zero_le _, rfl, by simp [H.wk], fun j _ hj => absurd hj (Nat.not_lt_zero _), HWI.out⟩
                  case round =>
                    obtain ⟨q, hq, rfl, rfl, hok3, hW⟩ := hrel
                    have HW := hid hW
                    have HOK := hid hok3
                    have g1 := hW.h1
                    have hwl := H.wk_le (l.take q)
                    rw [List.length_take] at hwl
                    by_cases hqm : q < m
                    · have hql : q < l.length := by have := E1.out; omega
                      obtain ⟨bx, ox, rfl, hcx⟩ := HRW.out q hql
                      have c1 := cell_stays hW.below (Nat.le_refl _) hcx
                      have q00 := cell_stays hW.below (Nat.le_refl _) Q0.out
                      have HWT := hid (H.wk_take hql)
                      have HLM := hid (show ∀ x, l[q] = x → x ∈ l from fun x e => e ▸ List.getElem_mem hql)
                      have HK := hid (show ∀ x, l[q] = x → H.okp n x → ∀ j (hj : j < l.length), j < q + 1 → H.okp n l[j] from fun x e hp j hj hjk => by
                        by_cases ej : j = q
                        · subst ej; rw [e]; exact hp
                        · exact HOK.out j hj (by omega))
                      have HIS := hid is_any
                      have hqx : (0 : Int) ≤ (q : Int) ∧ (q : Int) < (m : Int) := by omega
                      have hwn : IntKind.i64.wrap ((n : Int) - 1) = (n : Int) - 1 := IntWalk.i64_in _ (by omega)
                      clear hcx hok3 hW
                      generalize l[q] = x at *
                      cases hib : H.isb x (-1) ((n : Int) - 1) with
                      | false =>
                        have hno : ¬ H.okp n x := fun hp => by
                          have := of_decide_eq_false hib
                          rcases hp with hp | hp <;> omega
                        have hz : z = 5 := by rw [HS3.out, if_pos (fun hall => hno (hall x (HLM.out x rfl)))]
                        have HE := hid (HER.out (by rw [hz]; decide))
                        have HZ5 := hid hz
                        clear HK HLM hz
                        go_wp2
                        go_quiet ((go_at_call 64; exact Calls.quiet_of_same (quiet_same (HIS.out _ _ _ _))))
                        go_wp2
                        go_ret2
                        exact ⟨ret_int2 HE.out.2.symm (by rw [HE.out.1, HZ5.out]), below_drewN HW.out.below _⟩
                      | true =>
                        have hp : H.okp n x := by
                          have := of_decide_eq_true hib
                          unfold H.okp
                          omega
                        have HK2 := hid (HK.out x rfl hp)
                        have hw2 := HWT.out
                        clear HK HLM
                        by_cases hx1 : x = -1
                        · rw [if_pos hx1, Nat.add_zero] at hw2
                          have HN2 := hid hw2
                          subst hx1
                          clear hw2 HWT
                          go_wp2
                          go_quiet ((go_at_call 64; exact Calls.quiet_of_same (quiet_same (HIS.out _ _ _ _))))
                          go_wp2
                          go_roundw
                          case rel => exact ⟨q + 1, by omega, by go_num, by rw [HN2.out]; rfl, HK2.out, HW.out.drewN _⟩
                          case measure => simp [intOf]; omega
                        · rw [if_neg hx1] at hw2
                          have HN2 := hid hw2
                          have hwr : IntKind.i64.wrap (((H.wk (l.take q) : Nat) : Int) + 1) = ((H.wk (l.take q) : Nat) : Int) + 1 := IntWalk.i64_in _ (by omega)
                          clear hw2 HWT
                          go_wp2
                          go_quiet ((go_at_call 64; exact Calls.quiet_of_same (quiet_same (HIS.out _ _ _ _))))
                          go_wp2
                          go_roundw
                          case rel => exact ⟨q + 1, by omega, by go_num, by rw [HN2.out]; push_cast; rfl, HK2.out, HW.out.drewN _⟩
                          case measure => simp [intOf]; omega
                    · obtain rfl : m = q := by omega
                      have hall5 : ∀ x ∈ l, H.okp n x := fun x hx => by
                        obtain ⟨j, hj, e⟩ := List.mem_iff_getElem.1 hx
                        rw [← e]
                        exact HOK.out j hj (by have := E1.out; omega)
                      have HAL5 := hid hall5
                      have HS4 : Hid (z = if H.dup l = true then 6 else if s < (H.wk l : Int) then 16 else 0) := hid (by rw [HS3.out, if_neg (fun hn => hn hall5)])
                      have hwk : H.wk (l.take m) = H.wk l := by rw [List.take_of_length_le (by have := E1.out; omega)]
                      rw [hwk]
                      rw [hwk] at hwl
                      clear hok3 hW HOK HS3 hall5 hwk
                      go_wp2
                      go_loopw [16] (fun i wi => ∃ q : Nat, q ≤ m ∧ i = .int .i64 q ∧ (∀ j, j < q → ¬ H.again l j) ∧ H.WI w wi bo m n ib (H.don T L k) g h r rc) (fun i _ => m - (intOf i).toNat)
                      case atStart => exact ⟨0, Nat.zero_le _, rfl, fun j hj => absurd hj (Nat.not_lt_zero _), HW.out⟩
                      case round =>
                        clear HW g1
                        obtain ⟨q, hq, rfl, hna, hW⟩ := hrel
                        have HW := hid hW
                        have HNA := hid hna
                        have g1 := hW.h1
                        by_cases hqm : q < m
                        · have hql : q < l.length := by have := E1.out; omega
                          obtain ⟨bx, ox, rfl, hcx⟩ := HRW.out q hql
                          have HRX := hid (show ∀ t (ht : t < l.length), w.cell? ⟨bx, ox + t, none⟩ = some (.int .i64 l[t]) from fun t ht => by
                            obtain ⟨b7, o7, e7, k7⟩ := HRW.out t ht
                            simp only [Option.some.injEq, Addr.mk.injEq, and_true] at e7
                            obtain ⟨rfl, rfl⟩ := e7
                            exact k7)
                          have HAG := hid (H.again_iff hql)
                          have HDH := hid (fun hh => H.dup_hit (l := l) (k := q) hql hh)
                          have HMT := hid (show ∀ t (ht : t < l.length), t < q → l[t] ∈ l.take q from fun t ht htq => List.mem_iff_getElem.2 ⟨t, by rw [List.length_take]; omega, by rw [List.getElem_take]⟩)
                          have HMI := hid (show ∀ y, y ∈ l.take q → ∃ t, ∃ ht : t < l.length, t < q ∧ l[t] = y from fun y hy => by
                            obtain ⟨t, ht, e⟩ := List.mem_iff_getElem.1 hy
                            rw [List.length_take] at ht
                            rw [List.getElem_take] at e
                            exact ⟨t, by omega, by omega, e⟩)
                          have HCX := hid hcx
                          have hqx : (0 : Int) ≤ (q : Int) ∧ (q : Int) < (m : Int) := by omega
                          clear hcx hna hW
                          generalize l[q] = x at *
                          go_wp2
                          go_loopw [17] (fun j wi => ∃ t : Nat, t ≤ q ∧ j = .int .i64 t ∧ (∀ y (hy : y < l.length), y < t → ¬ (x ≠ -1 ∧ l[y] = x)) ∧ H.WI w wi bo m n ib (H.don T L k) g h (some ⟨bx, ox, none⟩) rc) (fun j _ => q - (intOf j).toNat)
                          case atStart => exact ⟨0, Nat.zero_le _, rfl, fun y _ hy => absurd hy (Nat.not_lt_zero _), HW.out⟩
                          case round =>
                            clear HW g1
                            obtain ⟨t, ht, rfl, hny, hW⟩ := hrel
                            have HW := hid hW
                            have HNY := hid hny
                            have g1 := hW.h1
                            by_cases htq : t < q
                            · have htl : t < l.length := by omega
                              have c1 := cell_stays hW.below (Nat.le_refl _) HCX.out
                              have c2 := cell_stays hW.below (Nat.le_refl _) (HRX.out t htl)
                              have htx : (0 : Int) ≤ (t : Int) ∧ (t : Int) < (m : Int) := by omega
                              have HMT2 := hid (HMT.out t htl htq)
                              have HNX2 := hid (show ¬ (x ≠ -1 ∧ l[t] = x) → ∀ y (hy : y < l.length), y < t + 1 → ¬ (x ≠ -1 ∧ l[y] = x) from fun hh y hy hyt => by
                                by_cases e : y = t
                                · subst e; exact hh
                                · exact HNY.out y hy (by omega))
                              clear hny hW
                              generalize l[t] = y at *
                              by_cases hx1 : x = -1
                              · have HN3 := hid (HNX2.out (fun hh => hh.1 hx1))
                                subst hx1
                                clear HNX2 HMT2
                                go_wp2
                                go_quiet (fail)
                                go_wp2
                                go_roundw
                                case rel => exact ⟨t + 1, by omega, by go_num, HN3.out, HW.out.drewN _⟩
                                case measure => simp [intOf]; omega
                              · have hxb : (x != -1) = true := by rw [bne_iff_ne]; exact hx1
                                by_cases hyx : y = x
                                · subst hyx
                                  have hz : z = 6 := by rw [HS4.out, if_pos (HDH.out (HAG.out.2 ⟨hx1, HMT2.out⟩))]
                                  have HE := hid (HER.out (by rw [hz]; decide))
                                  have HZ6 := hid hz
                                  clear HNX2 HMT2 hz
                                  go_wp2
                                  go_quiet (fail)
                                  go_wp2
                                  go_ret2
                                  exact ⟨ret_int2 HE.out.2.symm (by rw [HE.out.1, HZ6.out]), below_drewN HW.out.below _⟩
                                · have HN3 := hid (HNX2.out (fun hh => hyx hh.2))
                                  have hyb : (y == x) = false := by rw [beq_eq_false_iff_ne]; exact hyx
                                  clear HNX2 HMT2
                                  go_wp2
                                  go_quiet (fail)
                                  go_wp2
                                  go_roundw
                                  case rel => exact ⟨t + 1, by omega, by go_num, HN3.out, HW.out.drewN _⟩
                                  case measure => simp [intOf]; omega
                            · obtain rfl : q = t := by omega
                              have HN4 := hid (show ∀ j, j < q + 1 → ¬ H.again l j from fun j hj => by
                                by_cases e : j = q
                                · subst e
                                  rw [HAG.out]
                                  rintro ⟨e1, e2⟩
                                  obtain ⟨t, ht, htq, e3⟩ := HMI.out _ e2
                                  exact HNY.out t ht htq ⟨e1, e3⟩
                                · exact HNA.out j (by omega))
                              clear hny hW
                              go_wp2
                              go_roundw
                              case rel => exact ⟨q + 1, by omega, by go_num, HN4.out, HW.out⟩
                              case measure => simp [intOf]; omega
                        · obtain rfl : m = q := by omega
                          have HS5 : Hid (z = if s < (H.wk l : Int) then 16 else 0) := hid (by rw [HS4.out, if_neg]; rw [H.dup_none (fun j hj => hna j (by have := E1.out; omega))]; decide)
                          clear hna hW HNA HS4
                          by_cases hov : s < (H.wk l : Int)
                          · have hz : z = 16 := by rw [HS5.out, if_pos hov]
                            have HE := hid (HER.out (by rw [hz]; decide))
                            have HZ6 := hid hz
                            clear hz
                            generalize H.wk l = W at *
                            go_wp2
                            go_ret2
                            exact ⟨ret_int2 HE.out.2.symm (by rw [HE.out.1, HZ6.out]), HW.out.below⟩
                          · have HNN := hid (HNX.out (by rw [HS5.out, if_neg hov]))
                            generalize H.wk l = W at *
                            have HW0 := hid (HW.out.congr (G := H.doq T L k (h, l) 0) (fun i d _ _ => HZ.out i d))
                            clear HNX HER HS5 HW
                            go_wp2
                            go_loopw [18] (fun i wi => ∃ q : Nat, q ≤ m ∧ i = .int .i64 q ∧ H.WI w wi bo m n ib (H.doq T L k (h, l) q) g h r rc) (fun i _ => m - (intOf i).toNat)
                            case atStart => exact ⟨0, Nat.zero_le _, rfl, HW0.out⟩
                            case round =>
                              clear HW0 g1
                              obtain ⟨q, hq, rfl, hW⟩ := hrel
                              have HW := hid hW
                              have g1 := hW.h1
                              have g0 := hW.h0
                              by_cases hqm : q < m
                              · have hql : q < l.length := by have := E1.out; omega
                                obtain ⟨bx, ox, rfl, hcx⟩ := HRW.out q hql
                                have c1 := cell_stays hW.below (Nat.le_refl _) hcx
                                have hop := HAL5.out _ (List.getElem_mem hql)
                                have hgd : l.getD q (-1) = l[q] := by rw [List.getD_eq_getElem?_getD, List.getElem?_eq_getElem hql]; rfl
                                have HGD := hid hgd
                                have hqx : (0 : Int) ≤ (q : Int) ∧ (q : Int) < (m : Int) := by omega
                                clear hcx hgd
                                generalize l[q] = x at *
                                by_cases hx1 : x = -1
                                · subst hx1
                                  have HW2 := hid (HW.out.congr (G := H.doq T L k (h, l) (q + 1)) (fun i d _ _ => HID.out q HGD.out i d))
                                  clear hW
                                  go_wp2
                                  go_roundw
                                  case rel => exact ⟨q + 1, by omega, by go_num, HW2.out⟩
                                  case measure => simp [intOf]; omega
                                · obtain ⟨X, rfl⟩ : ∃ X : Nat, x = (X : Int) := ⟨x.toNat, by rcases hop with hop | hop <;> omega⟩
                                  have hXn : X < n := by rcases hop with hop | hop <;> omega
                                  have y1 := hW.om.row hqm hqm
                                  have y2 := (hW.om.inner q hqm).cell hXn
                                  have y3 := (hW.om.inner q hqm).frozen X
                                  have hbd := H.doq_bd (q := q) (p := (h, l)) (HHJ.out q X) (by exact hh)
                                  have HP2 := hid (HW.out.put hqm (j := X) (z := H.doq T L k (h, l) q q X + h) (G := H.doq T L k (h, l) (q + 1)) (fun i d _ _ => HWO.out q X HGD.out i d))
                                  generalize H.doq T L k (h, l) q q X = y at *
                                  have hwr : IntKind.i64.wrap (y + h) = y + h := IntWalk.i64_in _ (by omega)
                                  have hXx : (0 : Int) ≤ (X : Int) ∧ (X : Int) < (n : Int) := by omega
                                  clear hW
                                  go_wp2
                                  go_region
                                  all_goals (try go_wp2)
                                  all_goals
                                    go_roundw
                                    case rel => exact ⟨q + 1, by omega, by go_num, HP2.out.drewN _⟩
                                    case measure => simp [intOf]; omega
                              · obtain rfl : m = q := by omega
                                have HO2 := hid (HW.out.om.congr (G := H.don T L (k + 1)) (fun i d hi _ => HLL.out i d hi))
                                have hlb := HLB.out
                                have hwr : IntKind.i64.wrap (H.len (L.take k) + h) = H.len (L.take k) + h := IntWalk.i64_in _ (by omega)
                                clear hW
                                go_wp2
                                go_roundw
                                case rel => exact ⟨k + 1, by omega, by go_num, by rw [HLT.out], HNN.out, HO2.out, HW.out.below⟩
                                case measure => simp [intOf]; omega
              · have hz : z = 3 := by rw [HSTP.out, if_pos e1]
                have HE := hid (HER.out (by rw [hz]; decide))
                have d1 : ((l.length : Int) != (m : Int)) = true := by rw [bne_iff_ne]; omega
                clear HER HSTP HNX e1
                go_wp2
                go_ret2
                exact ⟨ret_int2 HE.out.2.symm (by rw [HE.out.1, hz]), HBA.out⟩
            · obtain rfl : L.length = k := by omega
              clear hb hO hall
              have HND := hid (HEND.out (fun j hj => HALL.out j hj hj))
              rw [List.take_length]
              clear HERR HEND HALL
              go_wp2
              go_loopw [19] (fun i wi => ∃ x : Nat, x ≤ m ∧ i = .int .i64 x ∧ (∀ i', i' < x → ∀ d, d < n → H.lft T L L.length i' d = 0) ∧ H.OM wi w.heap.size bo m n ib (H.don T L L.length) m ∧ Below w.heap.size w wi) (fun i _ => m - (intOf i).toNat)
              case atStart => exact ⟨0, Nat.zero_le _, rfl, fun i' hi' => absurd hi' (Nat.not_lt_zero _), HO.out, HB.out⟩
              case round =>
                clear HO HB
                obtain ⟨x, hx, rfl, hall, hO, hb⟩ := hrel
                have HAX := hid hall
                have HO := hid hO
                have HB := hid hb
                by_cases hxm : x < m
                · obtain ⟨b', o', c', k1, k2⟩ := HCW.out x hxm
                  have K1 := hid k1
                  have K2 := hid k2
                  have hxx : (0 : Int) ≤ (x : Int) ∧ (x : Int) < (m : Int) := by omega
                  clear hall hO hb k1 k2
                  go_wp2
                  go_loopw [20] (fun j wi => ∃ d : Nat, d ≤ n ∧ j = .int .i64 d ∧ (∀ d', d' < d → H.lft T L L.length x d' = 0) ∧ H.OM wi w.heap.size bo m n ib (H.don T L L.length) m ∧ Below w.heap.size w wi) (fun j _ => n - (intOf j).toNat)
                  case atStart => exact ⟨0, Nat.zero_le _, rfl, fun d' hd' => absurd hd' (Nat.not_lt_zero _), HO.out, HB.out⟩
                  case round =>
                    clear HO HB
                    obtain ⟨d, hd, rfl, hrow, hO, hb⟩ := hrel
                    have HRO := hid hrow
                    have HO := hid hO
                    have HB := hid hb
                    have y0 := cell_stays hb (Nat.le_refl _) K1.out
                    by_cases hdn : d < n
                    · have y1 := hO.row hxm hxm
                      have y2 := (hO.inner x hxm).cell hdn
                      have y3 := cell_stays hb (Nat.le_refl _) (K2.out d hdn)
                      have hdx : (0 : Int) ≤ (d : Int) ∧ (d : Int) < (n : Int) := by omega
                      have HDE : Hid (H.don T L L.length x d = H.el T x d - H.lft T L L.length x d) := hid rfl
                      have HDF := hid (show H.lft T L L.length x d ≠ 0 → H.srv T L = false from fun hne => by
                        rw [HSV.out]
                        exact decide_eq_false (fun h => hne (h x hxm d hdn)))
                      have HD0 := hid (show H.lft T L L.length x d = 0 → ∀ d', d' < d + 1 → H.lft T L L.length x d' = 0 from fun h0 d' hd' => by
                        by_cases e : d' = d
                        · subst e; exact h0
                        · exact HRO.out d' (by omega))
                      clear hrow hO hb
                      generalize H.don T L L.length x d = y at *
                      generalize H.el T x d = ee at *
                      generalize H.lft T L L.length x d = zz at *
                      by_cases hz : zz = 0
                      · have HD1 := hid (HD0.out hz)
                        have hye : y = ee := by have := HDE.out; omega
                        subst hye
                        clear HDF HD0 HDE hz
                        go_wp2
                        go_quiet (fail)
                        go_wp2
                        go_roundw
                        case rel => exact ⟨d + 1, by omega, by go_num, HD1.out, HO.out.drewN _, below_drewN HB.out _⟩
                        case measure => simp [intOf]; omega
                      · have HRF := hid (HND.out.2 (HDF.out hz))
                        have hye : ¬ y = ee := by have := HDE.out; omega
                        have hyb : (y != ee) = true := by rw [bne_iff_ne]; exact hye
                        clear HDF HD0 HDE hz
                        go_wp2
                        go_quiet (fail)
                        go_wp2
                        go_ret2
                        exact ⟨ret_int2 HRF.out.2.symm HRF.out.1.symm, below_drewN HB.out _⟩
                    · obtain rfl : n = d := by omega
                      clear hrow hO hb
                      go_wp2
                      go_roundw
                      case rel => exact ⟨x + 1, by omega, by go_num, fun i' hi' d' hd' => by
                        by_cases e : i' = x
                        · subst e; exact HRO.out d' hd'
                        · exact HAX.out i' (by omega) d' hd', HO.out, HB.out⟩
                      case measure => simp [intOf]; omega
                · obtain rfl : m = x := by omega
                  have HRT := hid (HND.out.1 (by rw [HSV.out]; exact decide_eq_true (fun i hi d hd => HAX.out i hi d hd)))
                  clear hall hO hb
                  go_wp2
                  go_ret2
                  exact ⟨ret_int2 HRT.out.2.symm HRT.out.1.symm, HB.out⟩
  · have hR : H.pln T s L = H.chks T s := by unfold H.pln; rw [if_pos hc]
    have HR2 : Hid (H.lgt T s L = 0) := hid (by unfold H.lgt; rw [hR, if_neg hc])
    rw [HR2.out, hR]
    clear hx hs hA hl hR
    generalize H.chks T s = z at *
    go_enter Try.func32, Try.ntmps32
    go_wp2_with fail
    refine HC.out.mono ?_
    rintro e w' ⟨rfl, q, rfl⟩
    go_wp2
    go_ret2
    exact ⟨rfl, below_drewN (Below.refl _ _) _⟩
end Go.Proofs.Ythlcnklbeolhpaa
