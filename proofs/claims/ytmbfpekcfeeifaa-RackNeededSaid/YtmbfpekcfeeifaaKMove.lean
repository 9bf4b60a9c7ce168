/- Package rack: the walk of Move. -/
import Derived.Test.YtmbfpekcfeeifaaKTurn
import Derived.Test.YtmbfpekcfeeifaaKCnI
import Derived.Test.YtmbfpekcfeeifaaKGiven
import Derived.Deep.RegionHeld3
import Derived.Laws.ResultCell
namespace Go.Proofs.Ytmbfpekcfeeifaa
open Go.RowKit

theorem cellsTwo {W : World} {g : Nat} {x y u v : Value} (h0 : W.cell? ⟨g, 0, none⟩ = some u) (h1 : W.cell? ⟨g, 1, none⟩ = some v) :
    ((W.setCell ⟨g, 0, none⟩ x).setCell ⟨g, 1, none⟩ y).cell? ⟨g, 0, none⟩ = some x ∧ ((W.setCell ⟨g, 0, none⟩ x).setCell ⟨g, 1, none⟩ y).cell? ⟨g, 1, none⟩ = some y := by
  refine ⟨?_, ?_⟩
  · rw [World.cell?_setCell_other _ _ _ _ (by simp)]
    exact World.cell?_setCell_same _ _ _ h0
  · refine World.cell?_setCell_same (u := v) _ _ _ ?_
    rw [World.cell?_setCell_other _ _ _ _ (by simp)]
    exact h1
theorem RowI.off {w : World} {lo : Nat} {v : Value} {xs : List Int} (h : RowI w lo v xs) {g : Nat} (hg : g < lo) (o : Nat) (u : Value) : RowI (w.setCell ⟨g, o, none⟩ u) lo v xs :=
  h.kept (grown_set _ _ _) (by
    cases hq : v.ownBlock with
    | none => exact .inl rfl
    | some q =>
      refine .inr fun e => ?_
      have := (World.ownsRow.lt h q hq).1
      have := Option.some.inj e
      omega)
theorem RowI.rdI {w : World} {lo n c : Nat} {a : Option Addr} {xs : List Int} (h : RowI w lo (.slice a n c) xs) : RdI w a xs := by
  obtain ⟨x, y, e, q⟩ := h.rd
  simp only [Value.slice.injEq] at e
  obtain ⟨rfl, _, _⟩ := e
  exact q
theorem RowI.stays {w w' : World} {lo : Nat} {v : Value} {xs : List Int} (h : RowI w lo v xs) (hb : Below w.heap.size w w') : RowI w' lo v xs := h.kept (grown_below hb) (Classical.em _)

/-- What Move returns. -/
def K.MvE (m n : Int) (bs : List Br) (w : World) (e : Ending) (w' : World) : Prop :=
  ∃ (R C : List Int) (r1 : Option Addr) (c1 : Nat) (r2 : Option Addr) (c2 : Nat), e = .returned (.tuple #[.agg #[.slice r1 R.length c1, .slice r2 C.length c2], .int .i64 (K.lse m n bs)]) ∧ RdI w' r1 R ∧ RdI w' r2 C ∧ Below w.heap.size w w' ∧ K.Mvd m n bs R C
/-- A rack in a box, and a motion that is to be returned. -/
def K.mvW (w : World) (m n : Int) (sl : Value) : World := (w.alloc (.cells #[.int .i64 m, .int .i64 n, sl] 24)).alloc (.cells #[.slice none 0 0, .slice none 0 0] 50)
theorem K.mvW_below (w : World) (m n : Int) (sl : Value) : Below w.heap.size w (K.mvW w m n sl) := ((Below.refl _ w).alloc (Nat.le_refl _) _).alloc (by simp) _
theorem K.mvW_box (w : World) (m n : Int) (sl : Value) (w' : World) (hb : Below (K.mvW w m n sl).heap.size (K.mvW w m n sl) w') :
    w'.rowIs w.heap.size 24 3 (K.rkF m n sl) ∧ w'.rowIs (w.heap.size + 1) 50 2 (fun _ => .slice none 0 0) := by
  have h1 : (w.alloc (.cells #[.int .i64 m, .int .i64 n, sl] 24)).rowIs w.heap.size 24 3 (K.rkF m n sl) := World.rowIs_alloc w #[.int .i64 m, .int .i64 n, sl] 24 _ (fun i hi => by
    have h : i < 3 := hi
    have h2 : i = 0 ∨ i = 1 ∨ i = 2 := by omega
    rcases h2 with rfl | rfl | rfl <;> rfl)
  have h2 : (K.mvW w m n sl).rowIs (w.heap.size + 1) 50 2 (fun _ => .slice none 0 0) := by
    have := World.rowIs_alloc (w.alloc (.cells #[.int .i64 m, .int .i64 n, sl] 24)) #[.slice none 0 0, .slice none 0 0] 50 (fun _ => .slice none 0 0) (fun i hi => by
      have h : i < 2 := hi
      have h2 : i = 0 ∨ i = 1 := by omega
      rcases h2 with rfl | rfl <;> rfl)
    rw [show (w.alloc (.cells #[.int .i64 m, .int .i64 n, sl] 24)).heap.size = w.heap.size + 1 by simp] at this
    exact this
  have h3 : (K.mvW w m n sl).rowIs w.heap.size 24 3 (K.rkF m n sl) := World.rowIs.alloc h1 _
  exact ⟨h3.of_block (hb.block _ h3.lt), h2.of_block (hb.block _ h2.lt)⟩

set_option maxHeartbeats 4000000 in
set_option maxRecDepth 100000 in
theorem move_any (m n : Int) (a : Option Addr) (c : Nat) (bs : List Br) (w : World) (hm : bs.length ≤ maxLen) (hR : RdB w a bs) :
    Calls Try.prog 27 #[K.rk m n a bs.length c] w (K.MvE m n bs w) := by
  have hb0 := K.mvW_below w m n (.slice a bs.length c)
  have HBX := hid (K.mvW_box w m n (.slice a bs.length c))
  have HB0 := hid hb0
  have HRB := hid (hR.stays hb0)
  have HCK := hid (check_any m n a c bs _ hm (hR.stays hb0))
  obtain ⟨i0, hi, hz0, hz1, hz2⟩ := info_parts (show (Try.prog.info? 50).map (fun i => (i.zero, i.size, i.bytes)) = some (some (.agg #[.slice none 0 0, .slice none 0 0]), 2, 48) by kernel_rfl)
  clear hb0 hR
  by_cases h0 : K.chk m n bs = 0
  case neg =>
    have hne : (K.chk m n bs != 0) = true := by simpa using h0
    have HL : Hid (K.lse m n bs = K.chk m n bs ∧ K.Mvd m n bs [] []) := hid ⟨by unfold K.lse; rw [if_neg h0], fun _ => ⟨rfl, rfl⟩, fun h => by unfold K.lse at h; rw [if_neg h0] at h; exact absurd h h0⟩
    have HS1 : Hid ((w.alloc (.cells #[.int .i64 m, .int .i64 n, .slice a bs.length c] 24)).heap.size = w.heap.size + 1) := hid (by simp)
    unfold K.mvW at HCK HB0 HBX
    unfold K.rk at HCK ⊢
    generalize K.chk m n bs = err at *
    clear h0 hm
    go_enter Try.func27, Try.ntmps27
    go_wp2_with fail
    refine HCK.out.mono ?_
    rintro e w1 ⟨rfl, hb⟩
    obtain ⟨hx, hy⟩ := HBX.out w1 hb
    have HB1 := hid (HB0.out.trans (hb.mono HB0.out.size))
    have k0 := hy.cell (i := 0) (by omega)
    have k1 := hy.cell (i := 1) (by omega)
    have f0 := hy.frozen 0
    have f1 := hy.frozen 1
    have c0 := ((hy.set 0 (.slice none 0 0)).set 1 (.slice none 0 0)).cell (i := 0) (by omega)
    have c1 := ((hy.set 0 (.slice none 0 0)).set 1 (.slice none 0 0)).cell (i := 1) (by omega)
    have HC0 : Hid (((w1.setCell ⟨w.heap.size + 1, 0, none⟩ (.slice none 0 0)).setCell ⟨w.heap.size + 1, 1, none⟩ (.slice none 0 0)).cell? ⟨w.heap.size + 1, 0, none⟩ = some (.slice none 0 0)) := hid (by simpa using c0)
    have HC1 : Hid (((w1.setCell ⟨w.heap.size + 1, 0, none⟩ (.slice none 0 0)).setCell ⟨w.heap.size + 1, 1, none⟩ (.slice none 0 0)).cell? ⟨w.heap.size + 1, 1, none⟩ = some (.slice none 0 0)) := hid (by simpa using c1)
    have HB2 := hid ((HB1.out.setCell (p := ⟨w.heap.size + 1, 0, none⟩) (Nat.le_succ _) (.slice none 0 0)).setCell (p := ⟨w.heap.size + 1, 1, none⟩) (Nat.le_succ _) (.slice none 0 0))
    clear hb hx hy HBX HCK c0 c1
    go_wp2
    have c0 := HC0.out
    have c1 := HC1.out
    generalize (w1.setCell ⟨w.heap.size + 1, 0, none⟩ (.slice none 0 0)).setCell ⟨w.heap.size + 1, 1, none⟩ (.slice none 0 0) = w3 at *
    refine bodyPost_ret (?_ : (results _ _).run _ _ = .ok (.tuple #[.agg #[.slice none 0 0, .slice none 0 0], .int .i64 err]) _) ?_ ?_
    · rw [results_cell_tmp rfl]
      simp [go_sem, c0, c1]
    · rfl
    · unfold K.MvE
      rw [HL.out.1]
      exact ⟨[], [], none, 0, none, 0, rfl, RdI.nil _ _, RdI.nil _ _, HB2.out, HL.out.2⟩
  case pos =>
    obtain ⟨p, q, rfl, rfl, hok⟩ := K.chk_ok h0
    rw [h0] at HCK
    have HTN := hid (fun (j : Nat) W (hx : RdB W a bs) => turns_any p q a c bs j W hm hx hok.m6 hok.n6 hok.inb)
    have HNO := hid (K.mv_none h0 (by have := hok.m1; omega))
    have HHT := hid (fun (j : Nat) (hj : j < p + q) h1 => K.mv_hit h0 hj h1)
    have hm1 := hok.m1
    have hm6 := hok.m6
    have hn1 := hok.n1
    have hn6 := hok.n6
    have HS1 : Hid ((w.alloc (.cells #[.int .i64 p, .int .i64 q, .slice a bs.length c] 24)).heap.size = w.heap.size + 1) := hid (by simp)
    have hws : IntKind.i64.wrap ((p : Int) + (q : Int)) = ((p + q : Nat) : Int) := by rw [IntWalk.i64_in _ (by omega)]; rfl
    unfold K.mvW at HCK HB0 HBX HRB
    unfold K.rk at HCK HTN ⊢
    generalize hNe : p + q = N at *
    have hpN : p < N := by omega
    have hN12 : N ≤ 12 := by omega
    have HNE := hid hNe
    clear hNe
    generalize K.leads p bs = M at *
    clear h0 hm hok
    go_enter Try.func27, Try.ntmps27
    go_wp2_with fail
    refine HCK.out.mono ?_
    rintro e w1 ⟨rfl, hb⟩
    obtain ⟨hx, hy⟩ := HBX.out w1 hb
    have HB1 := hid (HB0.out.trans (hb.mono HB0.out.size))
    have HX := hid hx
    have HY := hid hy
    have HRD := hid (HRB.out.stays hb)
    have k0 : w1.cell? ⟨w.heap.size, 0, none⟩ = some (.int .i64 (p : Int)) := hx.cell (i := 0) (by omega)
    have k1 : w1.cell? ⟨w.heap.size, 1, none⟩ = some (.int .i64 (q : Int)) := hx.cell (i := 1) (by omega)
    clear hb hx hy HBX HCK HB0 HRB
    go_wp2
    clear k0 k1 hws
    go_loopw [18] (fun i wr => ∃ j : Nat, j ≤ N ∧ i = .int .i64 j ∧ (∀ x, x < j → (1 : Int) ∉ K.tl M N x) ∧ Below w1.heap.size w1 wr) (fun i _ => N - (intOf i).toNat)
    case atStart => exact ⟨0, Nat.zero_le _, rfl, fun x hx => absurd hx (Nat.not_lt_zero _), Below.refl _ _⟩
    case round =>
      obtain ⟨j, hj, rfl, hno, hbl⟩ := hrel
      have HN := hid hno
      have HBL := hid hbl
      have HXR := hid (HX.out.of_block (hbl.block _ HX.out.lt))
      have HYR := hid (HY.out.of_block (hbl.block _ HY.out.lt))
      have HBW := hid (HB1.out.trans (hbl.mono HB1.out.size))
      have k0 : wr.cell? ⟨w.heap.size, 0, none⟩ = some (.int .i64 (p : Int)) := HXR.out.cell (i := 0) (by omega)
      have k1 : wr.cell? ⟨w.heap.size, 1, none⟩ = some (.int .i64 (q : Int)) := HXR.out.cell (i := 1) (by omega)
      have k2 : wr.cell? ⟨w.heap.size, 2, none⟩ = some (.slice a bs.length c) := HXR.out.cell (i := 2) (by omega)
      have HT := hid (HTN.out j wr (HRD.out.stays hbl))
      have hl0 : w.heap.size < wr.heap.size := HXR.out.lt
      clear hno hbl
      by_cases hlt : j < N
      · go_wp2_with fail
        refine HT.out.mono ?_
        rintro e w5 ⟨g, rfl, hrow, hb5⟩
        have HB5 := hid hb5
        have hrd : RdI w5 (some ⟨g, 0, none⟩) (K.tl M N j) := fun k hk => ⟨g, 0, rfl, by
          rw [K.tl_len] at hk
          have h1 := hrow.cell hk
          have h2 : (K.tl M N j)[k]? = some (K.tv M j k) := K.tl_at hk
          rw [List.getElem?_eq_getElem (by rw [K.tl_len]; exact hk)] at h2
          rw [Nat.zero_add, h1, Option.some.inj h2]⟩
        have HRI := hid hrd
        have HCT := hid (contains_any (some ⟨g, 0, none⟩) N (K.tl M N j) 1 w5 (by rw [K.tl_len]; unfold maxLen; omega) hrd)
        rw [K.tl_len] at HCT
        clear hrow hrd hb5 HT k0 k1 k2
        by_cases h1 : (1 : Int) ∈ K.tl M N j
        · obtain ⟨hle, hmv⟩ := HHT.out j hlt h1
          have HMV := hid hmv
          have HLE := hid hle
          rw [decide_eq_true h1] at HCT
          have HX5 := hid (HXR.out.of_block (HB5.out.block _ HXR.out.lt))
          have HY5 := hid (HYR.out.of_block (HB5.out.block _ HYR.out.lt))
          have HBE := hid (HBW.out.trans (HB5.out.mono HBW.out.size))
          have hrl : ((K.tl M N j).take p).length = p := by rw [List.length_take, K.tl_len]; omega
          have hcl : ((K.tl M N j).drop p).length = N - p := by rw [List.length_drop, K.tl_len]
          have HC1 := hid (fun W (h : Hid (Below w5.heap.size w5 W)) => cloneI_any (some ⟨g, 0, none⟩) N ((K.tl M N j).take p) W (by omega) (by omega) (fun k hk => by
            obtain ⟨b, o, e, hq⟩ := (HRI.out.stays2 h.out) k (by rw [List.length_take] at hk; omega)
            exact ⟨b, o, e, by simpa using hq⟩))
          have HC2 := hid (fun W (h : Hid (Below w5.heap.size w5 W)) => cloneI_any (some ⟨g, p, none⟩) (N - p) ((K.tl M N j).drop p) W (by omega) (by omega) (fun k hk => by
            obtain ⟨b, o, e, hq⟩ := (HRI.out.stays2 h.out) (p + k) (by rw [List.length_drop] at hk; omega)
            cases e
            exact ⟨g, p, rfl, by rw [show p + k = 0 + (p + k) by omega, hq]; simp⟩))
          rw [hrl] at HC1
          rw [hcl] at HC2
          have HRL := hid hrl
          have HCL := hid hcl
          generalize (K.tl M N j).take p = R at *
          generalize (K.tl M N j).drop p = C at *
          clear hmv hrl hcl h1 hle
          go_wp2_with fail
          refine HCT.out.mono ?_
          rintro e w6 ⟨rfl, rfl⟩
          have HCL1 := hid (fun W (h : Below w5.heap.size w5 W) => show W.cell? ⟨w.heap.size, 0, none⟩ = some (.int .i64 (p : Int)) ∧ W.cell? ⟨w.heap.size + 1, 0, none⟩ = some (.slice none 0 0) ∧ W.cell? ⟨w.heap.size + 1, 1, none⟩ = some (.slice none 0 0) ∧ W.frozen? ⟨w.heap.size + 1, 0, none⟩ = false ∧ W.frozen? ⟨w.heap.size + 1, 1, none⟩ = false from
            ⟨(HX5.out.of_block (h.block _ HX5.out.lt)).cell (i := 0) (by omega), (HY5.out.of_block (h.block _ HY5.out.lt)).cell (i := 0) (by omega), (HY5.out.of_block (h.block _ HY5.out.lt)).cell (i := 1) (by omega), (HY5.out.of_block (h.block _ HY5.out.lt)).frozen 0, (HY5.out.of_block (h.block _ HY5.out.lt)).frozen 1⟩)
          have HA1 := hid (fun W (h : Hid (Below w5.heap.size w5 W)) => (HC1.out W h).mono (R' := fun e w' => ∃ a cap, e = .returned (.slice a p cap) ∧ Hid (RowI w' W.heap.size (.slice a p cap) R) ∧ Hid (Below W.heap.size W w') ∧ Hid (Below w5.heap.size w5 w')) (fun e w' hq => by obtain ⟨a9, c9, h1, h2, h3⟩ := hq; exact ⟨a9, c9, h1, hid h2, hid h3, hid (h.out.trans (h3.mono h.out.size))⟩))
          have HA2 := hid (fun W (h : Hid (Below w5.heap.size w5 W)) => (HC2.out W h).mono (R' := fun e w' => ∃ a cap, e = .returned (.slice a (N - p) cap) ∧ Hid (RowI w' W.heap.size (.slice a (N - p) cap) C) ∧ Hid (Below W.heap.size W w') ∧ Hid (Below w5.heap.size w5 w')) (fun e w' hq => by obtain ⟨a9, c9, h1, h2, h3⟩ := hq; exact ⟨a9, c9, h1, hid h2, hid h3, hid (h.out.trans (h3.mono h.out.size))⟩))
          have i1 : (0 : Int) ≤ (p : Int) ∧ (p : Int) ≤ (N : Int) := by omega
          have i2 : ¬ N = 0 := by omega
          have i3 : ¬ N - p = 0 := by omega
          have i4 : (0 : Int) ≤ (p : Int) ∧ (p : Int) ≤ (N : Int) ∧ (N : Int) ≤ (N : Int) := by omega
          have HRS : Hid (w.heap.size + 1 < w5.heap.size) := hid HY5.out.lt
          clear HX5 HY5 HC1 HC2 HXR HYR HB1 HX HY HRD HBW HTN HHT HRI HN HBL
          have hd : Hid (Below w5.heap.size w5 w5.drew) := hid (Below.refl _ _).drew
          obtain ⟨p0, y0, y1, f0, f1⟩ := HCL1.out _ hd.out
          have hy0 : ∀ W, Hid (Below w5.heap.size w5 W) → W.cell? ⟨w.heap.size + 1, 0, none⟩ = some (.slice none 0 0) := fun W h => (HCL1.out W h.out).2.1
          have hy1 : ∀ W, Hid (Below w5.heap.size w5 W) → W.cell? ⟨w.heap.size + 1, 1, none⟩ = some (.slice none 0 0) := fun W h => (HCL1.out W h.out).2.2.1
          have hf0 : ∀ W, Hid (Below w5.heap.size w5 W) → W.frozen? ⟨w.heap.size + 1, 0, none⟩ = false := fun W h => (HCL1.out W h.out).2.2.2.1
          have hf1 : ∀ W, Hid (Below w5.heap.size w5 W) → W.frozen? ⟨w.heap.size + 1, 1, none⟩ = false := fun W h => (HCL1.out W h.out).2.2.2.2
          go_wp2
          go_region_held3 (fun W => W.cell? ⟨w.heap.size, 0, none⟩ = some (.int .i64 (p : Int))) (first | exact (HCL1.out _ (Hid.out (by assumption))).1 | go_keep) (first | (go_at_call_of 64 (Value.slice (some (⟨g, 0, none⟩ : Addr)) p N); (with_reducible refine (HA1.out _ (by assumption)).mono ?_); rintro e w10 ⟨a10, c10, rfl, hr10, hb10, hc10⟩) | (go_at_call_of 64 (Value.slice (some (⟨g, p, none⟩ : Addr)) (N - p) (N - p)); (with_reducible refine (HA2.out _ (by assumption)).mono ?_); rintro e w11 ⟨a11, c11, rfl, hr11, hb11, hc11⟩))
          all_goals
            have hwl : w.heap.size + 1 < w5.heap.size := HRS.out
            have hz := hd.out.size
            obtain ⟨_, z0, z1, _, _⟩ := HCL1.out w11 (Hid.out (by assumption))
            obtain ⟨hq0, hq1⟩ := cellsTwo (x := .slice a10 p c10) (y := .slice a11 (N - p) c11) z0 z1
            have HC0 := hid hq0
            have HC1 := hid hq1
            have HRF : Hid (RdI ((w11.setCell ⟨w.heap.size + 1, 0, none⟩ (.slice a10 p c10)).setCell ⟨w.heap.size + 1, 1, none⟩ (.slice a11 (N - p) c11)) a10 R ∧ RdI ((w11.setCell ⟨w.heap.size + 1, 0, none⟩ (.slice a10 p c10)).setCell ⟨w.heap.size + 1, 1, none⟩ (.slice a11 (N - p) c11)) a11 C) := hid (by
              have hs1 := hb11.out.size
              have hs2 := hb10.out.size
              have r1 := ((hr10.out.stays hb11.out).off (g := w.heap.size + 1) (by omega) 0 (.slice a10 p c10)).off (g := w.heap.size + 1) (by omega) 1 (.slice a11 (N - p) c11)
              have r2 := (hr11.out.off (g := w.heap.size + 1) (by omega) 0 (.slice a10 p c10)).off (g := w.heap.size + 1) (by omega) 1 (.slice a11 (N - p) c11)
              exact ⟨r1.rdI, r2.rdI⟩)
            have HBF := hid (((HBE.out.trans (hc11.out.mono HBE.out.size)).setCell (p := ⟨w.heap.size + 1, 0, none⟩) (Nat.le_succ _) (.slice a10 p c10)).setCell (p := ⟨w.heap.size + 1, 1, none⟩) (Nat.le_succ _) (.slice a11 (N - p) c11))
            clear hq0 hq1 hwl hz z0 z1 hr10 hr11 hb10 hb11 hc10 hc11 hd
            go_wp2
            have c0 := HC0.out
            have c1 := HC1.out
            generalize (w11.setCell ⟨w.heap.size + 1, 0, none⟩ (.slice a10 p c10)).setCell ⟨w.heap.size + 1, 1, none⟩ (.slice a11 (N - p) c11) = w12 at *
            refine bodyPost_ret (?_ : (results _ _).run _ _ = .ok (.tuple #[.agg #[.slice a10 p c10, .slice a11 (N - p) c11], .int .i64 0]) _) ?_ ?_
            · rw [results_cell_tmp rfl]
              simp [go_sem, c0, c1]
            · rfl
            · unfold K.MvE
              rw [HLE.out]
              exact ⟨R, C, a10, c10, a11, c11, by rw [HRL.out, HCL.out], HRF.out.1, HRF.out.2, HBF.out, HMV.out⟩
        · rw [decide_eq_false h1] at HCT
          have HN1 : Hid (∀ x, x < j + 1 → (1 : Int) ∉ K.tl M N x) := hid (fun x hx => by
            by_cases e : x = j
            · rw [e]; exact h1
            · exact HN.out x (by omega))
          have HBL1 := hid (HBL.out.trans (HB5.out.mono HBL.out.size))
          clear h1
          go_wp2_with fail
          refine HCT.out.mono ?_
          rintro e w6 ⟨rfl, rfl⟩
          go_wp2
          go_roundw
          case rel => exact ⟨j + 1, by omega, by go_num, HN1.out, HBL1.out⟩
          case measure => simp [intOf]; omega
      · have hje : j = N := by omega
        subst hje
        obtain ⟨hle, hmv⟩ := HNO.out HN.out
        have HMV := hid hmv
        have HLE := hid hle
        have c0 := ((HYR.out.set 0 (.slice none 0 0)).set 1 (.slice none 0 0)).cell (i := 0) (by omega)
        have c1 := ((HYR.out.set 0 (.slice none 0 0)).set 1 (.slice none 0 0)).cell (i := 1) (by omega)
        have HC0 : Hid (((wr.setCell ⟨w.heap.size + 1, 0, none⟩ (.slice none 0 0)).setCell ⟨w.heap.size + 1, 1, none⟩ (.slice none 0 0)).cell? ⟨w.heap.size + 1, 0, none⟩ = some (.slice none 0 0)) := hid (by simpa using c0)
        have HC1 : Hid (((wr.setCell ⟨w.heap.size + 1, 0, none⟩ (.slice none 0 0)).setCell ⟨w.heap.size + 1, 1, none⟩ (.slice none 0 0)).cell? ⟨w.heap.size + 1, 1, none⟩ = some (.slice none 0 0)) := hid (by simpa using c1)
        have HB2 := hid ((HBW.out.setCell (p := ⟨w.heap.size + 1, 0, none⟩) (Nat.le_succ _) (.slice none 0 0)).setCell (p := ⟨w.heap.size + 1, 1, none⟩) (Nat.le_succ _) (.slice none 0 0))
        have y0 := HYR.out.cell (i := 0) (by omega)
        have y1 := HYR.out.cell (i := 1) (by omega)
        have f0 := HYR.out.frozen 0
        have f1 := HYR.out.frozen 1
        clear c0 c1 hmv k0 k1 k2 HT hle
        go_wp2
        have c0 := HC0.out
        have c1 := HC1.out
        generalize (wr.setCell ⟨w.heap.size + 1, 0, none⟩ (.slice none 0 0)).setCell ⟨w.heap.size + 1, 1, none⟩ (.slice none 0 0) = w3 at *
        refine bodyPost_ret (?_ : (results _ _).run _ _ = .ok (.tuple #[.agg #[.slice none 0 0, .slice none 0 0], .int .i64 14]) _) ?_ ?_
        · rw [results_cell_tmp rfl]
          simp [go_sem, c0, c1]
        · rfl
        · unfold K.MvE
          rw [HLE.out]
          exact ⟨[], [], none, 0, none, 0, rfl, RdI.nil _ _, RdI.nil _ _, HB2.out, HMV.out⟩
end Go.Proofs.Ytmbfpekcfeeifaa
