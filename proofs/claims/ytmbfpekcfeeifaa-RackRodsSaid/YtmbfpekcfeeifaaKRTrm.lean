/- Package tuscheref05: the walk of Trim. -/
import Derived.Test.YtmbfpekcfeeifaaKTrm
import Derived.Test.YtmbfpekcfeeifaaKRFre
import Derived.Laws.OwnMore
import Derived.Deep.DeepCutAuto
import Derived.Deep.RegionHeld3
namespace Go.Proofs.Ytmbfpekcfeeifaa
open Go.RowKit

theorem K.bsamR {B : Nat} {w a b : World} (h : Below B w b) (h1 : a.heap = b.heap) (h2 : a.os = b.os) (h3 : a.tape = b.tape) (h4 : a.output = b.output) : Below B w a :=
  ⟨h2.trans h.os, h3.trans h.tape, h4.trans h.output, by rw [h1]; exact h.size, fun k hk => by rw [h1]; exact h.block k hk⟩
/-- Append of a row that may be nil, to a row of one's own. -/
theorem step_append_m {P : Program} {ops : Array Oper} {o : Oper} {a : Act} {w : World} {K : Act → World → Prop} {Q : Exit → Act → World → Prop} {E : Prop} (hgd : o.guard = none) (s x : Operand) (t : TypeId)
    (ho : o.op = .call { callee := .builtin .append, args := #[s, x], argTypes := #[t, t] })
    (e : TypeId) (i : TypeInfo) (z : Value) (size : Nat) (ht : P.underlying t = some (.slice e)) (hi : P.info? e = some i) (hz : i.zero = some z) (hsize : i.size = size) (hby : i.bytes ≤ 48) (hzs : z.cells.size = size) (hpos : 0 < size)
    (base : Nat) (v : Value) (n : Nat) (xs : List Value) (hs : a.eval s = v) (bx : Value) (m : Nat) (news : List Value) (hx : a.eval x = bx)
    (hf : w.ownsRow base e size v n xs ∧ news.length = m * size ∧ ((bx = .slice none 0 0 ∧ m = 0) ∨ ∃ ad c, bx = .slice (some ad) m c ∧ ∀ j u, news[j]? = some u → w.cell? (ad.add j) = some u) ∧ (∀ u ∈ news, u.oneCell' = true) ∧ n + m ≤ 1000 ∧ base ≤ w.heap.size)
    (h : ∀ v' w', w'.ownsRow base e size v' (n + m) (xs ++ news) → w.grownBy w' v.ownBlock → (v'.ownBlock = v.ownBlock ∨ v'.ownBlock = some w.heap.size) → K (a.put o.dst v') w') :
    if Region.wanted o (yielded ops a.tmps) = true then Oper.wp P o a w K Q else E := by
  obtain ⟨f1, f2, f3, f4, f5, f6⟩ := hf
  rcases f3 with ⟨rfl, rfl⟩ | ⟨ad, c, rfl, f3⟩
  · have hw : Region.wanted o (yielded ops a.tmps) = true := by simp [Region.wanted, hgd]
    rw [if_pos hw]
    have hn : news = [] := List.eq_nil_of_length_eq_zero (by rw [f2, Nat.zero_mul])
    subst hn
    have hrun := run_append_owned_none (P := P) (w := w) base t o.type e i size ht hi v n xs f1
    unfold Oper.wp execOp
    simp only [ho, resolve, invoke, builtin, Sem.run_bind, Sem.run_pure, Result.andThen_ok, List.map_toArray, List.map_cons, List.map_nil, hs, hx, hrun]
    exact h v w (by rw [List.append_nil]; exact f1) ⟨rfl, rfl, rfl, Nat.le_refl _, fun _ _ _ => rfl⟩ (.inl rfl)
  · exact step_append_n hgd s x t ho e i z size ht hi hz hsize hby hzs hpos base v n xs hs ad m c news hx ⟨f1, f2, f3, f4, f5, f6⟩ h

/-- The cells of a brace. -/
def K.brF (x y z : Int) (i : Nat) : Value := if i = 0 then .int .i64 x else if i = 1 then .int .i64 y else .int .i64 z
theorem K.br_new (W : World) (x y z : Int) : (W.alloc (.cells #[.int .i64 x, .int .i64 y, .int .i64 z] 64)).rowIs W.heap.size 64 3 (K.brF x y z) :=
  World.rowIs_alloc W #[.int .i64 x, .int .i64 y, .int .i64 z] 64 _ (fun i hi => by
    have h : i < 3 := hi
    have h2 : i = 0 ∨ i = 1 ∨ i = 2 := by omega
    rcases h2 with rfl | rfl | rfl <;> rfl)
theorem K.br_cells {W : World} {C : Nat} {x y z : Int} (h : W.rowIs C 64 3 (K.brF x y z)) : ∀ j u, ([.int .i64 x, .int .i64 y, .int .i64 z] : List Value)[j]? = some u → W.cell? (Addr.add ⟨C, 0, none⟩ j) = some u := by
  intro j u hj
  match j, hj with
  | 0, hj => simp at hj; subst hj; exact h.cell (i := 0) (by omega)
  | 1, hj => simp at hj; subst hj; exact h.cell (i := 1) (by omega)
  | 2, hj => simp at hj; subst hj; exact h.cell (i := 2) (by omega)
/-- The first append's facts. -/
theorem K.armA {w1 W : World} {B rc : Nat} {ra : Option Addr} {S : List Br} (h60 : S.length ≤ 60) (hsrc : (Value.slice ra S.length rc = .slice none 0 0 ∧ S.length = 0) ∨ ∃ b off, ra = some ⟨b, off, none⟩) (hr : RdB W ra S) (hb : Below w1.heap.size w1 W) (hB : w1.heap.size ≤ B) (hW : W.heap[B]? = some (.cells #[] 64)) :
    W.ownsRow w1.heap.size 64 3 (.slice (some ⟨B, 0, none⟩) 0 0) 0 [] ∧ (brCells S).length = S.length * 3 ∧ ((Value.slice ra S.length rc = .slice none 0 0 ∧ S.length = 0) ∨ ∃ ad c, Value.slice ra S.length rc = .slice (some ad) S.length c ∧ ∀ j u, (brCells S)[j]? = some u → W.cell? (ad.add j) = some u) ∧ (∀ u ∈ brCells S, u.oneCell' = true) ∧ 0 + S.length ≤ 1000 ∧ w1.heap.size ≤ W.heap.size :=
  ⟨⟨rfl, Or.inr ⟨B, 0, #[], rfl, hB, hW, Nat.le_refl _, Nat.zero_le _, rfl, rfl⟩⟩, brCells_len S, by
    rcases hsrc with h | ⟨b, off, rfl⟩
    · exact .inl h
    · exact .inr ⟨_, _, rfl, hr.cells⟩, brCells_one _, by omega, hb.size⟩
/-- The second append's facts. -/
theorem K.armB {w1 W : World} {C : Nat} {S : List Br} {x y z : Int} {v1 : Value} (h60 : S.length ≤ 60) (hb : Below w1.heap.size w1 W) (ho : W.ownsRow w1.heap.size 64 3 v1 (0 + S.length) ([] ++ brCells S)) (hC : W.rowIs C 64 3 (K.brF x y z)) :
    W.ownsRow w1.heap.size 64 3 v1 (0 + S.length) ([] ++ brCells S) ∧ ([.int .i64 x, .int .i64 y, .int .i64 z] : List Value).length = 1 * 3 ∧ (∀ j u, ([.int .i64 x, .int .i64 y, .int .i64 z] : List Value)[j]? = some u → W.cell? (Addr.add ⟨C, 0, none⟩ j) = some u) ∧ (∀ u ∈ ([.int .i64 x, .int .i64 y, .int .i64 z] : List Value), u.oneCell' = true) ∧ 0 + S.length + 1 ≤ 1000 ∧ w1.heap.size ≤ W.heap.size :=
  ⟨ho, rfl, K.br_cells hC, (fun u hu => by simp at hu; rcases hu with rfl | rfl | rfl <;> rfl), by omega, hb.size⟩
theorem K.armB_row {w1 wb : World} {S : List Br} {x y z : Int} {v : Value} (h : wb.ownsRow w1.heap.size 64 3 v (0 + S.length + 1) (([] ++ brCells S) ++ [.int .i64 x, .int .i64 y, .int .i64 z])) : RowBR wb w1.heap.size v (S ++ [(x, y, z)]) := by
  unfold RowBR
  rw [List.length_append, brCells_snoc, show S.length + [(x, y, z)].length = 0 + S.length + 1 by simp]
  exact h
/-- A rack in a variable of its own: with one brace more. -/
def K.Mor (wr wx : World) (p q : Nat) (T : List Br) (v : Value) : Prop := ∃ a c, v = .pointer (some ⟨wr.heap.size, 0, none⟩) ∧ wx.rowIs wr.heap.size 28 3 (K.rkF p q (.slice a T.length c)) ∧ RowBR wx (wr.heap.size + 1) (.slice a T.length c) T ∧ Below wr.heap.size wr wx
theorem K.mor_set {wr w1 wb : World} {p q : Nat} {u v : Value} {T : List Br} (hs : w1.heap.size = wr.heap.size + 1) (hv : w1.rowIs wr.heap.size 28 3 (K.rkF p q u)) (hw : Below wr.heap.size wr w1) (hb : Below w1.heap.size w1 wb) (hr : RowBR wb w1.heap.size v T) :
    K.Mor wr (wb.setCell ⟨wr.heap.size, 2, none⟩ v) p q T (.pointer (some ⟨wr.heap.size, 0, none⟩)) := by
  have hne : v.ownBlock = none ∨ v.ownBlock ≠ some wr.heap.size := by
    cases hq : v.ownBlock with
    | none => exact .inl rfl
    | some k => exact .inr fun e => by have := hr.lt hq; have := Option.some.inj e; omega
  have hr2 : RowBR (wb.setCell ⟨wr.heap.size, 2, none⟩ v) (wr.heap.size + 1) v T := by rw [← hs]; exact World.ownsRow.kept hr (grown_set _ _ _) hne
  have hv2 := hv.of_block (hb.block _ hv.lt)
  obtain ⟨a, c, rfl, _⟩ := hr2.rd
  refine ⟨a, c, rfl, (hv2.set 2 _).congr fun i hi => ?_, hr2, (hw.trans (hb.mono hw.size)).setCell (p := ⟨wr.heap.size, 2, none⟩) (Nat.le_refl _) _⟩
  have h4 : i = 0 ∨ i = 1 ∨ i = 2 := by omega
  unfold K.rkF
  rcases h4 with rfl | rfl | rfl <;> simp

theorem row_grown2 {w W wa : World} {row : Option Nat} {b : Nat} {t : TypeId} {n : Nat} {f : Nat → Value} (h : w.rowIs b t n f) (hg : W.grownBy wa row) (hne : row ≠ some b) (he : W.heap = w.heap) : wa.rowIs b t n f :=
  row_grown (w := W) (h.of_block (by rw [he])) hg hne
theorem own_grown2 {w W wa : World} {row : Option Nat} {base : Nat} {e : TypeId} {size : Nat} {v : Value} {n : Nat} {xs : List Value} (h : w.ownsRow base e size v n xs) (hg : W.grownBy wa row) (hne : v.ownBlock = none ∨ v.ownBlock ≠ row) (he : W.heap = w.heap) : wa.ownsRow base e size v n xs :=
  World.ownsRow.kept (w := W) (by unfold World.ownsRow at h ⊢; rw [he]; exact h) hg hne
theorem own_mono2 {w : World} {lo lo' : Nat} {e : TypeId} {size : Nat} {v : Value} {n : Nat} {xs : List Value} (h : w.ownsRow lo e size v n xs) (hb : lo' ≤ lo) : w.ownsRow lo' e size v n xs :=
  ⟨h.1, h.2.imp id fun ⟨g, cap, cur, e, hg, r⟩ => ⟨g, cap, cur, e, Nat.le_trans hb hg, r⟩⟩
theorem own_off {w : World} {lo g o : Nat} {e : TypeId} {size : Nat} {v u : Value} {n : Nat} {xs : List Value} (h : w.ownsRow lo e size v n xs) (hg : g < lo) : (w.setCell ⟨g, o, none⟩ u).ownsRow lo e size v n xs :=
  World.ownsRow.kept h (grown_set _ _ _) (by
    cases hq : v.ownBlock with
    | none => exact .inl rfl
    | some k => exact .inr fun e => by have := (World.ownsRow.lt h k hq).1; have := Option.some.inj e; omega)

set_option maxHeartbeats 8000000 in
set_option maxRecDepth 100000 in
theorem refTrim_any (m n : Int) (a : Option Addr) (c : Nat) (bs : List Br) (w : World) (hm : bs.length ≤ maxLen) (hR : RdB w a bs) :
    Calls Try.prog 35 #[K.rk m n a bs.length c] w (K.LsE (K.trm m n bs) (K.tre m n bs) w) := by
  obtain ⟨HB0, hbx⟩ := box_rackR w m n a c bs hR
  have HBX := hid hbx
  have HFR := hid (refFreedom_any m n a c bs _ hm (hR.stays HB0.out))
  clear hbx hR
  by_cases h0 : K.chr m n bs = 0
  · have hc0 := (K.chr_zero h0).1
    obtain ⟨p, q, rfl, rfl, hok⟩ := K.chk_ok hc0
    have hfew := hok.few
    have hm1 := hok.m1
    have h1le : 1 ≤ (K.gs (K.leads p bs) p (p + q) (p + q)).length := by
      obtain ⟨k, hk⟩ : ∃ k, p + q = k + 1 := ⟨p + q - 1, by omega⟩
      have := (K.gs_one (K.leads p bs) p (p + q) k).1
      rw [hk] at this ⊢
      exact this
    have HST : Hid (K.stf p q bs = decide ((K.gsv p q bs).length = 1)) := hid (by unfold K.stf; rw [if_pos hc0]; simp)
    have HFE := hid (K.fre_rods h0)
    have HT : Hid (K.trm p q bs = (if K.stf p q bs = true then (K.jo p (K.leads p []) bs).2.1 else []) ∧ K.tre p q bs = (if K.stf p q bs = true then 0 else 22)) := hid ⟨by unfold K.trm; rw [h0]; simp, by unfold K.tre; rw [if_pos h0]⟩
    have HFS := hid (fun k (hk : k < bs.length) => K.fre_step h0 hk)
    have HSS := hid (fun k (hk : k < bs.length) => K.sm_succ p (K.leads p []) hk)
    have HSM := hid (fun k (hk : k ≤ bs.length) => K.sm_mem (m := p) (M := K.leads p []) (rods := bs) k hk)
    have HJT := hid (fun k (hk : k < bs.length) => K.jo_take (m := p) (M := K.leads p []) hk)
    have HJI := hid (fun k (hk : k ≤ bs.length) => K.jo_idx p (K.leads p []) hk)
    have HLN := hid (fun k (hk : k ≤ bs.length) => show (K.jo p (K.leads p []) (bs.take k)).2.1.length ≤ k by unfold K.jo; have := K.jo_len p (bs.take k) (K.leads p [], [], 0); rw [List.length_take] at this; simp at this; omega)
    have HFA := hid (fun W (S : List Br) ra rc (hl : S.length ≤ 60) hr => refFreedom_any p q ra rc S W (by unfold maxLen; omega) hr)
    rw [h0] at HFR
    rw [HT.out.1, HT.out.2]
    unfold K.rk at HFR HFA ⊢
    unfold maxLen at hm
    by_cases hst : (K.gsv p q bs).length = 1
    case neg =>
      have hst' : K.stf p q bs = false := by rw [HST.out]; exact decide_eq_false hst
      rw [hst']
      have hpos : K.fre p q bs > 0 := by
        rw [HFE.out]
        have : (K.gs (K.leads p bs) p (p + q) (p + q)).length ≠ 1 := hst
        omega
      simp only [Bool.false_eq_true, if_false]
      clear hst hst' HST HFE HT HFS HSS HSM HJT HJI HFA HLN hok h0 hc0 h1le
      generalize K.fre p q bs = F at *
      go_enter Try.func35, Try.ntmps35
      go_wp2_with fail
      refine HFR.out.mono ?_
      rintro e w1 ⟨rfl, hb⟩
      have HBW := hid (HB0.out.trans (hb.mono HB0.out.size))
      clear hb
      go_wp2
      go_ret2
      exact ⟨_, _, rfl, (fun k hk => absurd hk (Nat.not_lt_zero _)), HBW.out⟩
    case pos =>
      have hst' : K.stf p q bs = true := by rw [HST.out]; exact decide_eq_true hst
      rw [hst']
      have hf0 : K.fre p q bs = 0 := by
        rw [HFE.out]
        have : (K.gs (K.leads p bs) p (p + q) (p + q)).length = 1 := hst
        omega
      rw [hf0] at HFR
      simp only [if_true]
      clear hst hst' HST HFE HT hok h0 hc0 h1le hf0
      obtain ⟨i0, hi, hz0, hz1, hz2⟩ := info_parts (show (Try.prog.info? 64).map (fun i => (i.zero, i.size, i.bytes)) = some (some (.agg #[.int .i64 0, .int .i64 0, .int .i64 0]), 3, 24) by kernel_rfl)
      obtain ⟨i1, ji, jz0, jz1, jz2⟩ := info_parts (show (Try.prog.info? 3).map (fun i => (i.zero, i.size, i.bytes)) = some (some (.int .i64 0), 1, 8) by kernel_rfl)
      go_enter Try.func35, Try.ntmps35
      go_wp2_with fail
      refine HFR.out.mono ?_
      rintro e w1 ⟨rfl, hb⟩
      obtain ⟨k0, k1, k2, hr, hbw, hsz⟩ := HBX.out w1 hb
      have HBZ := hid hb
      have HBW := hid hbw
      clear hb hr hbw HFR
      go_wp2
      have HV2 : Hid ((w1.alloc (.cells #[.int .i64 (p : Int), .int .i64 (q : Int), .slice none 0 0] 28)).rowIs w1.heap.size 28 3 (K.rkF p q (.slice none 0 0))) := hid (World.rowIs_alloc w1 #[.int .i64 (p : Int), .int .i64 (q : Int), .slice none 0 0] 28 _ (fun i hi => by
        have h : i < 3 := hi
        have h2 : i = 0 ∨ i = 1 ∨ i = 2 := by omega
        rcases h2 with rfl | rfl | rfl <;> rfl))
      have HB2 := hid (HBZ.out.alloc HBZ.out.size (.cells #[.int .i64 (p : Int), .int .i64 (q : Int), .slice none 0 0] 28))
      have HG7 : Hid ((w.alloc (.cells #[.int .i64 (p : Int), .int .i64 (q : Int), .slice a bs.length c] 28)).heap.size ≤ w1.heap.size) := hid HBZ.out.size
      have HS2 : Hid ((w1.alloc (.cells #[.int .i64 (p : Int), .int .i64 (q : Int), .slice none 0 0] 28)).heap.size = w1.heap.size + 1) := hid (by simp)
      generalize w.alloc (.cells #[.int .i64 (p : Int), .int .i64 (q : Int), .slice a bs.length c] 28) = W0 at *
      generalize w1.alloc (.cells #[.int .i64 (p : Int), .int .i64 (q : Int), .slice none 0 0] 28) = w2 at *
      generalize w1.heap.size = g7 at *
      clear k0 k1 k2 hsz HBZ HBW w1
      go_loopw [6, 8] (fun v i wr => ∃ k : Nat, k ≤ bs.length ∧ i = .int .i64 k ∧ RowI wr w2.heap.size v (K.jo p (K.leads p []) (bs.take k)).2.1 ∧ Below W0.heap.size W0 wr ∧ w2.heap.size ≤ wr.heap.size ∧ ∃ bv, wr.rowIs g7 28 3 (K.rkF p q bv) ∧ RowBR wr w2.heap.size bv (K.sm p (K.leads p []) bs k)) (fun _ i _ => bs.length - (intOf i).toNat)
      case atStart => exact ⟨0, Nat.zero_le _, rfl, World.ownsRow_nil _ _ _ _, HB2.out, Nat.le_refl _, _, HV2.out, by rw [K.sm_zero]; exact World.ownsRow_nil _ _ _ _⟩
      case round =>
        clear HB2 HV2
        obtain ⟨k, hk, rfl, hrow, hb, hsz2, bv, hv, hbr⟩ := hrel
        have HROW := hid hrow
        have HB := hid hb
        have HV := hid hv
        have HBR := hid hbr
        have HSZ := hid hsz2
        obtain ⟨k0, k1, k2, hr, hbw, hsz⟩ := HBX.out wr hb
        have HR := hid hr
        have HBW := hid hbw
        clear hrow hb hv hbr hsz2 hr hbw
        by_cases hlt : k < bs.length
        · obtain ⟨b, off, rfl, c1, c2, c3⟩ := HR.out k hlt
          have HS := hid (HSS.out k hlt)
          have HF := hid (HFS.out k hlt)
          have HJ : Hid ((K.jo p (K.leads p []) (bs.take (k + 1))).2.1 = if K.R (K.jo p (K.leads p []) (bs.take k)).1 bs[k].1.toNat (p + bs[k].2.1.toNat) = true then (K.jo p (K.leads p []) (bs.take k)).2.1 else (K.jo p (K.leads p []) (bs.take k)).2.1 ++ [(k : Int)]) := hid (by
            rw [HJT.out k hlt]
            unfold K.jst
            simp only [HJI.out k hk])
          have HIL := hid (HLN.out k hk)
          have HSL := hid (show (K.sm p (K.leads p []) bs k).length ≤ 24 by have := (HSM.out k hk).2; omega)
          generalize K.R (K.jo p (K.leads p []) (bs.take k)).1 bs[k].1.toNat (p + bs[k].2.1.toNat) = r at *
          generalize hI1 : (K.jo p (K.leads p []) (bs.take (k + 1))).2.1 = I1 at *
          have HI1 := hid hI1
          clear hI1
          generalize (K.jo p (K.leads p []) (bs.take k)).2.1 = I at *
          generalize hS1 : K.sm p (K.leads p []) bs (k + 1) = S1 at *
          have HS1E := hid hS1
          clear hS1
          generalize K.sm p (K.leads p []) bs k = S at *
          generalize bs[k] = br at *
          obtain ⟨x, y, z⟩ := br
          simp only at c1 c2 c3
          obtain ⟨ra, rc, rfl, hrd⟩ := HBR.out.rd
          have HRD := hid hrd
          have HSRC : Hid ((Value.slice ra S.length rc = .slice none 0 0 ∧ S.length = 0) ∨ ∃ b off, ra = some ⟨b, off, none⟩) := hid (by
            rcases HBR.out.2 with ⟨e, h⟩ | ⟨g, cap, cur, e, _⟩
            · exact .inl ⟨e, h⟩
            · injection e with e1; exact .inr ⟨g, 0, e1⟩)
          have HFS1 := hid (fun W hr => HFA.out W S ra rc (by have := HSL.out; omega) hr)
          have HFS2 := hid (fun W ra rc hr => HFA.out W (S ++ [(x, y, z)]) ra rc (by have := HSL.out; rw [List.length_append]; have : [(x, y, z)].length = 1 := rfl; omega) hr)
          have y0 : wr.cell? ⟨g7, 0, none⟩ = some (.int .i64 (p : Int)) := HV.out.cell (i := 0) (by omega)
          have y1 : wr.cell? ⟨g7, 1, none⟩ = some (.int .i64 (q : Int)) := HV.out.cell (i := 1) (by omega)
          have y2 : wr.cell? ⟨g7, 2, none⟩ = some (.slice ra S.length rc) := HV.out.cell (i := 2) (by omega)
          have hix : (0 : Int) ≤ (k : Int) ∧ (k : Int) < (bs.length : Int) := by omega
          have HCE := hid (show wr.cell? ⟨b, off + k * 3, none⟩ = some (.int .i64 x) ∧ wr.cell? ⟨b, off + k * 3 + 1, none⟩ = some (.int .i64 y) ∧ wr.cell? ⟨b, off + k * 3 + 2, none⟩ = some (.int .i64 z) from ⟨c1, c2, c3⟩)
          have HK2 := hid k2
          have HCS := hid (fun (W : World) (hW : Below wr.heap.size wr W) => show W.cell? ⟨g7, 2, none⟩ = some (.slice ra S.length rc) ∧ W.cell? ⟨w.heap.size, 2, none⟩ = some (.slice (some ⟨b, off, none⟩) bs.length c) ∧ W.cell? ⟨b, off + k * 3, none⟩ = some (.int .i64 x) ∧ W.cell? ⟨b, off + k * 3 + 1, none⟩ = some (.int .i64 y) ∧ W.cell? ⟨b, off + k * 3 + 2, none⟩ = some (.int .i64 z) from
            ⟨(HV.out.of_block (hW.block _ HV.out.lt)).cell (i := 2) (by omega), cell_stays hW (Nat.le_refl _) HK2.out, cell_stays hW (Nat.le_refl _) HCE.out.1, cell_stays hW (Nat.le_refl _) HCE.out.2.1, cell_stays hW (Nat.le_refl _) HCE.out.2.2⟩)
          have HW1 : Hid (Below wr.heap.size wr (wr.alloc (.cells #[.int .i64 (p : Int), .int .i64 (q : Int), .slice ra S.length rc] 28))) := hid ((Below.refl _ _).alloc (Nat.le_refl _) _)
          have HV1 : Hid ((wr.alloc (.cells #[.int .i64 (p : Int), .int .i64 (q : Int), .slice ra S.length rc] 28)).rowIs wr.heap.size 28 3 (K.rkF p q (.slice ra S.length rc))) := hid (World.rowIs_alloc wr #[.int .i64 (p : Int), .int .i64 (q : Int), .slice ra S.length rc] 28 _ (fun i hi => by
            have h : i < 3 := hi
            have h2 : i = 0 ∨ i = 1 ∨ i = 2 := by omega
            rcases h2 with rfl | rfl | rfl <;> rfl))
          have HS1 : Hid ((wr.alloc (.cells #[.int .i64 (p : Int), .int .i64 (q : Int), .slice ra S.length rc] 28)).heap.size = wr.heap.size + 1) := hid (by simp)
          clear HFS HSS HSM HJT HJI HFA HLN hrd
          go_upto_region 12 with (fail)
          generalize wr.alloc (.cells #[.int .i64 (p : Int), .int .i64 (q : Int), .slice ra S.length rc] 28) = W1 at *
          clear c1 c2 c3 y0 y1 y2 k0 k1 k2 hsz
          go_cut [9] (fun s9 wx => K.Mor wr wx p q (S ++ [(x, y, z)]) s9)
          case first =>
            have HC1 := hid (fun W (hW : Below W1.heap.size W1 W) => HCS.out W (HW1.out.trans (hW.mono HW1.out.size)))
            have HPA := hid (fun (W : World) (B : Nat) (hb : Below W1.heap.size W1 W) (hB : W1.heap.size ≤ B) (hW : W.heap[B]? = some (.cells #[] 64)) => K.armA (rc := rc) (by have := HSL.out; omega) HSRC.out (HRD.out.stays (HW1.out.trans (hb.mono HW1.out.size))) hb hB hW)
            have HQA := hid (fun (W : World) (C : Nat) (v1 : Value) (hb : Below W1.heap.size W1 W) (ho : W.ownsRow W1.heap.size 64 3 v1 (0 + S.length) ([] ++ brCells S)) (hC : W.rowIs C 64 3 (K.brF x y z)) => K.armB (by have := HSL.out; omega) hb ho hC)
            have HU0 : Hid (Below W1.heap.size W1 (W1.alloc (.cells #[.int .i64 x, .int .i64 y, .int .i64 z] 64))) := hid ((Below.refl _ _).alloc (Nat.le_refl _) _)
            have HU1 : Hid (Below W1.heap.size W1 (W1.alloc (.cells #[] 64))) := hid ((Below.refl _ _).alloc (Nat.le_refl _) _)
            have HU2 : Hid (Below W1.heap.size W1 ((W1.alloc (.cells #[] 64)).alloc (.cells #[.int .i64 x, .int .i64 y, .int .i64 z] 64))) := hid (HU1.out.alloc HU1.out.size _)
            have HU3 : Hid (Below W1.heap.size W1 ((W1.alloc (.cells #[.int .i64 x, .int .i64 y, .int .i64 z] 64)).alloc (.cells #[] 64))) := hid (HU0.out.alloc HU0.out.size _)
            have hz0s : (W1.alloc (.cells #[.int .i64 x, .int .i64 y, .int .i64 z] 64)).heap.size = W1.heap.size + 1 := by simp
            have hz1s : (W1.alloc (.cells #[] 64)).heap.size = W1.heap.size + 1 := by simp
            have HF1 : Hid ((W1.alloc (.cells #[] 64)).heap[W1.heap.size]? = some (.cells #[] 64)) := hid (Go.Deep.blk_alloc_new _ _)
            have HF2 : Hid (((W1.alloc (.cells #[] 64)).alloc (.cells #[.int .i64 x, .int .i64 y, .int .i64 z] 64)).heap[W1.heap.size]? = some (.cells #[] 64)) := hid (by rw [Go.Deep.blk_alloc_lt _ _ _ (by rw [hz1s]; omega)]; exact HF1.out)
            have HF3 : Hid (((W1.alloc (.cells #[.int .i64 x, .int .i64 y, .int .i64 z] 64)).alloc (.cells #[] 64)).heap[W1.heap.size + 1]? = some (.cells #[] 64)) := hid (by rw [← hz0s]; exact Go.Deep.blk_alloc_new _ _)
            have HC2 : Hid (((W1.alloc (.cells #[] 64)).alloc (.cells #[.int .i64 x, .int .i64 y, .int .i64 z] 64)).rowIs (W1.heap.size + 1) 64 3 (K.brF x y z)) := hid (by rw [← hz1s]; exact K.br_new _ x y z)
            have HC3 : Hid (((W1.alloc (.cells #[.int .i64 x, .int .i64 y, .int .i64 z] 64)).alloc (.cells #[] 64)).rowIs W1.heap.size 64 3 (K.brF x y z)) := hid (World.rowIs.alloc (K.br_new W1 x y z) _)
            have g0 : W1.heap.size ≤ W1.heap.size := Nat.le_refl _
            have g1 : W1.heap.size ≤ W1.heap.size + 1 := Nat.le_succ _
            have q0 := HC1.out W1 (Below.refl _ _)
            clear hz0s hz1s HROW HB HFS1 HFS2 HF HJ HS
            go_region_held3 (fun W => W.cell? ⟨g7, 2, none⟩ = some (.slice ra S.length rc) ∧ W.cell? ⟨w.heap.size, 2, none⟩ = some (.slice (some ⟨b, off, none⟩) bs.length c) ∧ W.cell? ⟨b, off + k * 3, none⟩ = some (.int .i64 x) ∧ W.cell? ⟨b, off + k * 3 + 1, none⟩ = some (.int .i64 y) ∧ W.cell? ⟨b, off + k * 3 + 2, none⟩ = some (.int .i64 z)) (first | exact HCS.out _ hb8.out | exact HC1.out _ (K.bsamR (Below.refl _ _) rfl rfl rfl rfl) | exact HC1.out _ (K.bsamR hb6.out rfl rfl rfl rfl) | exact HC1.out _ (K.bsamR hb5.out rfl rfl rfl rfl) | exact HC1.out _ (K.bsamR hb4.out rfl rfl rfl rfl) | exact HC1.out _ (K.bsamR HU3.out rfl rfl rfl rfl) | exact HC1.out _ (K.bsamR HU2.out rfl rfl rfl rfl) | exact HC1.out _ (K.bsamR HU1.out rfl rfl rfl rfl) | exact HC1.out _ (K.bsamR HU0.out rfl rfl rfl rfl) | go_keep) (first | (refine step_append_m rfl (.tmp 41) (.tmp 43) 26 (by rfl) 64 i0 (.agg #[.int .i64 0, .int .i64 0, .int .i64 0]) 3 Try.underlying26 hi hz0 hz1 (by rw [hz2]; decide) rfl (by decide) W1.heap.size (.slice (some ⟨W1.heap.size, 0, none⟩) 0 0) 0 [] (by simp [Act.eval]) (.slice ra S.length rc) S.length (brCells S) (by simp [Act.eval]) (HPA.out _ _ (K.bsamR HU1.out rfl rfl rfl rfl) g0 (by exact HF1.out)) ?_; intro v1 wa hw1 hg1 h31; have hb4 := hid (Below.grown (show Below W1.heap.size W1 _ by exact K.bsamR HU1.out rfl rfl rfl rfl) hg1 (by exact HU1.out.size) (fun q hq => by cases hq; exact g0)); have ho1 := hid hw1; have hb5 := hid (hb4.out.alloc hb4.out.size (.cells #[.int .i64 x, .int .i64 y, .int .i64 z] 64)); have ho5 := hid (World.ownsRow.alloc hw1 (.cells #[.int .i64 x, .int .i64 y, .int .i64 z] 64)); have hcx5 := hid (K.br_new wa x y z); clear hw1 hg1 h31) | (refine step_append_m rfl (.tmp 41) (.tmp 43) 26 (by rfl) 64 i0 (.agg #[.int .i64 0, .int .i64 0, .int .i64 0]) 3 Try.underlying26 hi hz0 hz1 (by rw [hz2]; decide) rfl (by decide) W1.heap.size (.slice (some ⟨W1.heap.size, 0, none⟩) 0 0) 0 [] (by simp [Act.eval]) (.slice ra S.length rc) S.length (brCells S) (by simp [Act.eval]) (HPA.out _ _ (K.bsamR HU2.out rfl rfl rfl rfl) g0 (by exact HF2.out)) ?_; intro v1 wa hw1 hg1 h31; have hb4 := hid (Below.grown (show Below W1.heap.size W1 _ by exact K.bsamR HU2.out rfl rfl rfl rfl) hg1 (by exact HU2.out.size) (fun q hq => by cases hq; exact g0)); have ho1 := hid hw1; have hcx := hid (row_grown (show World.rowIs _ _ _ _ _ from HC2.out) (show World.grownBy ((W1.alloc (.cells #[] 64)).alloc (.cells #[.int .i64 x, .int .i64 y, .int .i64 z] 64)) wa _ from ⟨hg1.os, hg1.tape, hg1.output, hg1.size, hg1.block⟩) (fun e => by have e2 : W1.heap.size = W1.heap.size + 1 := Option.some.inj e; omega)); clear hw1 hg1 h31) | (refine step_append_m rfl (.tmp 41) (.tmp 43) 26 (by rfl) 64 i0 (.agg #[.int .i64 0, .int .i64 0, .int .i64 0]) 3 Try.underlying26 hi hz0 hz1 (by rw [hz2]; decide) rfl (by decide) W1.heap.size (.slice (some ⟨W1.heap.size + 1, 0, none⟩) 0 0) 0 [] (by simp [Act.eval]) (.slice ra S.length rc) S.length (brCells S) (by simp [Act.eval]) (HPA.out _ _ (K.bsamR HU3.out rfl rfl rfl rfl) g1 (by exact HF3.out)) ?_; intro v1 wa hw1 hg1 h31; have hb4 := hid (Below.grown (show Below W1.heap.size W1 _ by exact K.bsamR HU3.out rfl rfl rfl rfl) hg1 (by exact HU3.out.size) (fun q hq => by cases hq; exact g1)); have ho1 := hid hw1; have hcx := hid (row_grown (show World.rowIs _ _ _ _ _ from HC3.out) (show World.grownBy ((W1.alloc (.cells #[.int .i64 x, .int .i64 y, .int .i64 z] 64)).alloc (.cells #[] 64)) wa _ from ⟨hg1.os, hg1.tape, hg1.output, hg1.size, hg1.block⟩) (fun e => by have e2 : W1.heap.size + 1 = W1.heap.size := Option.some.inj e; omega)); clear hw1 hg1 h31) | (refine step_append_n rfl (.tmp 44) (.tmp 50) 26 (by rfl) 64 i0 (.agg #[.int .i64 0, .int .i64 0, .int .i64 0]) 3 Try.underlying26 hi hz0 hz1 (by rw [hz2]; decide) rfl (by decide) W1.heap.size v1 (0 + S.length) ([] ++ brCells S) (by simp [Act.eval]) ⟨wa.heap.size, 0, none⟩ 1 1 [.int .i64 x, .int .i64 y, .int .i64 z] (by simp [Act.eval]) (HQA.out _ _ _ (K.bsamR hb5.out rfl rfl rfl rfl) (by exact ho5.out) (by exact hcx5.out)) ?_; intro v2 wb hw2 hg2 h32; have hb6 := hid (Below.grown (show Below W1.heap.size W1 _ by exact K.bsamR hb5.out rfl rfl rfl rfl) hg2 (by exact hb5.out.size) (fun q hq => (World.ownsRow.lt ho5.out q hq).1)); have ho2 := hid (K.armB_row hw2); clear hw2 hg2 h32; have hmo := hid (K.mor_set HS1.out HV1.out HW1.out hb6.out ho2.out); have hb8 := hid ((HW1.out.trans (hb6.out.mono HW1.out.size)).setCell (p := ⟨wr.heap.size, 2, none⟩) (Nat.le_refl _) v2); have hv2 := HV1.out.of_block (hb6.out.block _ HV1.out.lt); have r2 := hv2.cell (i := 2) (show _ < 3 by omega); have p2 := hv2.frozen 2; obtain ⟨a2, c2, rfl, hrd⟩ := ho2.out.rd; clear hrd hv2; simp only [List.length_append, List.length_cons, List.length_nil, Nat.zero_add] at hb8 hmo) | (refine step_append_n rfl (.tmp 44) (.tmp 50) 26 (by rfl) 64 i0 (.agg #[.int .i64 0, .int .i64 0, .int .i64 0]) 3 Try.underlying26 hi hz0 hz1 (by rw [hz2]; decide) rfl (by decide) W1.heap.size v1 (0 + S.length) ([] ++ brCells S) (by simp [Act.eval]) ⟨W1.heap.size + 1, 0, none⟩ 1 1 [.int .i64 x, .int .i64 y, .int .i64 z] (by simp [Act.eval]) (HQA.out _ _ _ (K.bsamR hb4.out rfl rfl rfl rfl) (by exact ho1.out) (by exact hcx.out)) ?_; intro v2 wb hw2 hg2 h32; have hb6 := hid (Below.grown (show Below W1.heap.size W1 _ by exact K.bsamR hb4.out rfl rfl rfl rfl) hg2 (by exact hb4.out.size) (fun q hq => (World.ownsRow.lt ho1.out q hq).1)); have ho2 := hid (K.armB_row hw2); clear hw2 hg2 h32; have hmo := hid (K.mor_set HS1.out HV1.out HW1.out hb6.out ho2.out); have hb8 := hid ((HW1.out.trans (hb6.out.mono HW1.out.size)).setCell (p := ⟨wr.heap.size, 2, none⟩) (Nat.le_refl _) v2); have hv2 := HV1.out.of_block (hb6.out.block _ HV1.out.lt); have r2 := hv2.cell (i := 2) (show _ < 3 by omega); have p2 := hv2.frozen 2; obtain ⟨a2, c2, rfl, hrd⟩ := ho2.out.rd; clear hrd hv2; simp only [List.length_append, List.length_cons, List.length_nil, Nat.zero_add] at hb8 hmo) | (refine step_append_n rfl (.tmp 44) (.tmp 50) 26 (by rfl) 64 i0 (.agg #[.int .i64 0, .int .i64 0, .int .i64 0]) 3 Try.underlying26 hi hz0 hz1 (by rw [hz2]; decide) rfl (by decide) W1.heap.size v1 (0 + S.length) ([] ++ brCells S) (by simp [Act.eval]) ⟨W1.heap.size, 0, none⟩ 1 1 [.int .i64 x, .int .i64 y, .int .i64 z] (by simp [Act.eval]) (HQA.out _ _ _ (K.bsamR hb4.out rfl rfl rfl rfl) (by exact ho1.out) (by exact hcx.out)) ?_; intro v2 wb hw2 hg2 h32; have hb6 := hid (Below.grown (show Below W1.heap.size W1 _ by exact K.bsamR hb4.out rfl rfl rfl rfl) hg2 (by exact hb4.out.size) (fun q hq => (World.ownsRow.lt ho1.out q hq).1)); have ho2 := hid (K.armB_row hw2); clear hw2 hg2 h32; have hmo := hid (K.mor_set HS1.out HV1.out HW1.out hb6.out ho2.out); have hb8 := hid ((HW1.out.trans (hb6.out.mono HW1.out.size)).setCell (p := ⟨wr.heap.size, 2, none⟩) (Nat.le_refl _) v2); have hv2 := HV1.out.of_block (hb6.out.block _ HV1.out.lt); have r2 := hv2.cell (i := 2) (show _ < 3 by omega); have p2 := hv2.frozen 2; obtain ⟨a2, c2, rfl, hrd⟩ := ho2.out.rd; clear hrd hv2; simp only [List.length_append, List.length_cons, List.length_nil, Nat.zero_add] at hb8 hmo))
            all_goals
              go_wp2
              go_meet
              exact hmo.out
          case rest =>
            obtain ⟨a9, c9, rfl, hz9, hr9, hb9⟩ := hcut
            generalize S ++ [(x, y, z)] = T at *
            have HZ9 := hid hz9
            have HR9 := hid hr9
            have HB9 := hid hb9
            have HD9 : Hid (RdB wc a9 T) := hid (by
              obtain ⟨a', c', e, h⟩ := hr9.rd
              injection e with e1
              rw [e1]; exact h)
            have HV9 := hid (HV.out.of_block (hb9.block _ HV.out.lt))
            have y0 : wc.cell? ⟨g7, 0, none⟩ = some (.int .i64 (p : Int)) := HV9.out.cell (i := 0) (by omega)
            have y1 : wc.cell? ⟨g7, 1, none⟩ = some (.int .i64 (q : Int)) := HV9.out.cell (i := 1) (by omega)
            have y2 : wc.cell? ⟨g7, 2, none⟩ = some (.slice ra S.length rc) := HV9.out.cell (i := 2) (by omega)
            have HE1 := hid (HFS1.out wc (HRD.out.stays hb9))
            clear hz9 hr9 hb9 HFS1 HCS HW1 HV1 HS1 HV HCE HSRC
            generalize hF1 : K.fre p q T = f1 at *
            generalize hF0 : K.fre p q S = f0 at *
            clear hF1 hF0
            go_wp2_with fail
            refine HE1.out.mono ?_
            rintro e w6 ⟨rfl, hb⟩
            have HB6 := hid (HB9.out.trans (hb.mono HB9.out.size))
            have HZ6 := hid (HZ9.out.of_block (hb.block _ HZ9.out.lt))
            have HR6 : Hid (RowBR w6 (wr.heap.size + 1) (.slice a9 T.length c9) T) := hid (ownsRow_stays HR9.out hb)
            have HV6 := hid (HV9.out.of_block (hb.block _ HV9.out.lt))
            have HE2 := hid (HFS2.out w6 a9 c9 (HD9.out.stays hb))
            have z0 : w6.cell? ⟨wr.heap.size, 0, none⟩ = some (.int .i64 (p : Int)) := HZ6.out.cell (i := 0) (by omega)
            have z1 : w6.cell? ⟨wr.heap.size, 1, none⟩ = some (.int .i64 (q : Int)) := HZ6.out.cell (i := 1) (by omega)
            have z2 : w6.cell? ⟨wr.heap.size, 2, none⟩ = some (.slice a9 T.length c9) := HZ6.out.cell (i := 2) (by omega)
            clear hb y0 y1 y2 HE1 HZ9 HR9 HD9 HV9 HB9 HFS2
            go_wp2_with fail
            refine HE2.out.mono ?_
            rintro e w7 ⟨rfl, hb⟩
            have HB7 := hid (HB6.out.trans (hb.mono HB6.out.size))
            have HZ7 := hid (HZ6.out.of_block (hb.block _ HZ6.out.lt))
            have HR7 : Hid (RowBR w7 (wr.heap.size + 1) (.slice a9 T.length c9) T) := hid (ownsRow_stays HR6.out hb)
            have HV7 := hid (HV6.out.of_block (hb.block _ HV6.out.lt))
            have HO7 : Hid (RowI w7 w2.heap.size u6 I) := hid (ownsRow_stays (show wr.ownsRow w2.heap.size 3 1 u6 I.length (I.map (Value.int .i64)) from HROW.out) HB7.out)
            have HS7 : Hid (RowBR w7 w2.heap.size (.slice ra S.length rc) S) := hid (ownsRow_stays (show wr.ownsRow w2.heap.size 64 3 (.slice ra S.length rc) S.length (brCells S) from HBR.out) HB7.out)
            have HW7 := hid (HB.out.trans (HB7.out.mono HB.out.size))
            have HSZ7 : Hid (w2.heap.size ≤ w7.heap.size) := hid (Nat.le_trans HSZ.out HB7.out.size)
            clear hb z0 z1 z2 HE2 HZ6 HR6 HV6 HB6
            cases r with
            | true =>
              have HN : Hid (f1 = f0 ∧ I1 = I ∧ S1 = S) := hid ⟨HF.out.trans (if_pos rfl), HJ.out.trans (if_pos rfl), HS.out.trans (if_pos rfl)⟩
              have hno : ¬ f1 < f0 := by have := HN.out.1; omega
              go_wp2
              go_roundw
              case rel => exact ⟨k + 1, by omega, by go_num, by rw [HI1.out, HN.out.2.1]; exact HO7.out, HW7.out, HSZ7.out, _, HV7.out, by rw [HS1E.out, HN.out.2.2]; exact HS7.out⟩
              case measure => simp [intOf]; omega
            | false =>
              have HN : Hid (f1 = f0 - 1 ∧ I1 = I ++ [(k : Int)] ∧ S1 = T) := hid ⟨HF.out.trans (if_neg (by decide)), HJ.out.trans (if_neg (by decide)), HS.out.trans (if_neg (by decide))⟩
              have hyes : f1 < f0 := by have := HN.out.1; omega
              go_upto_region 16 with (fail)
              have HOQ := hid (fun q (hq : u6.ownBlock = some q) => World.ownsRow.lt (show wr.ownsRow w2.heap.size 3 1 u6 I.length (I.map (Value.int .i64)) from HROW.out) q hq)
              have HU7 := hid (HW7.out.alloc HW7.out.size (.cells #[.int .i64 (k : Int)] 3))
              have hzA := hid (HZ7.out.alloc (.cells #[.int .i64 (k : Int)] 3))
              have hvA := hid (HV7.out.alloc (.cells #[.int .i64 (k : Int)] 3))
              have htA := hid (World.ownsRow.alloc HR7.out (.cells #[.int .i64 (k : Int)] 3))
              have HIU : Hid ((w7.alloc (.cells #[.int .i64 (k : Int)] 3)).ownsRow w2.heap.size 3 1 u6 I.length (I.map (Value.int .i64)) ∧ ([.int .i64 (k : Int)] : List Value).length = 1 * 1 ∧ (∀ j u, ([.int .i64 (k : Int)] : List Value)[j]? = some u → (w7.alloc (.cells #[.int .i64 (k : Int)] 3)).cell? (Addr.add ⟨w7.heap.size, 0, none⟩ j) = some u) ∧ (∀ u ∈ ([.int .i64 (k : Int)] : List Value), u.oneCell' = true) ∧ I.length + 1 ≤ 1000 ∧ w2.heap.size ≤ (w7.alloc (.cells #[.int .i64 (k : Int)] 3)).heap.size) :=
                hid ⟨World.ownsRow.alloc HO7.out _, rfl, (fun j u hj => by
                  match j, hj with
                  | 0, hj => simp at hj; subst hj; rw [show Addr.add ⟨w7.heap.size, 0, none⟩ 0 = ⟨w7.heap.size, 0, none⟩ from rfl, World.cell?_alloc_at _ _ _ _ rfl]; rfl), (fun u hu => by simp at hu; subst hu; rfl), (by have := HIL.out; omega), Nat.le_trans HSZ7.out (by simp)⟩
              have HZC := hid (fun (W : World) (h : W.rowIs wr.heap.size 28 3 (K.rkF p q (.slice a9 T.length c9))) => (show W.cell? ⟨wr.heap.size, 0, none⟩ = some (.int .i64 (p : Int)) ∧ W.cell? ⟨wr.heap.size, 1, none⟩ = some (.int .i64 (q : Int)) ∧ W.cell? ⟨wr.heap.size, 2, none⟩ = some (.slice a9 T.length c9) from ⟨h.cell (i := 0) (by omega), h.cell (i := 1) (by omega), h.cell (i := 2) (by omega)⟩))
              have HGG : Hid (g7 < w2.heap.size ∧ g7 ≠ wr.heap.size ∧ w2.heap.size ≤ wr.heap.size + 1 ∧ W0.heap.size ≤ g7 ∧ W0.heap.size ≤ w2.heap.size) := hid (by have h1 := HS2.out; have h2 := HSZ.out; have h3 := HG7.out; exact ⟨by omega, by omega, by omega, h3, by omega⟩)
              have HRP := hid (fun (W : World) (h : W.rowIs g7 28 3 (K.rkF p q (.slice ra S.length rc))) => rkF_put (m := (p : Int)) (n := (q : Int)) (v := .slice a9 T.length c9) h)
              have q0 := HZC.out w7 HZ7.out
              clear HO7 HS7 HW7 HB7 HF HROW HB HBR HR
              go_region_held3 (fun W => W.cell? ⟨wr.heap.size, 0, none⟩ = some (.int .i64 (p : Int)) ∧ W.cell? ⟨wr.heap.size, 1, none⟩ = some (.int .i64 (q : Int)) ∧ W.cell? ⟨wr.heap.size, 2, none⟩ = some (.slice a9 T.length c9)) (first | exact HZC.out _ (by exact hz9.out) | exact HZC.out _ (by exact hz8.out) | exact HZC.out _ (by exact HZ7.out) | exact HZC.out _ (by exact hzA.out) | go_keep) (first | (refine step_append_n rfl (.tmp 66) (.tmp 68) 40 (by rfl) 3 i1 (.int .i64 0) 1 Try.underlying40 ji jz0 jz1 (by rw [jz2]; decide) rfl (by decide) w2.heap.size u6 I.length (I.map (Value.int .i64)) (by simp [Act.eval]) ⟨w7.heap.size, 0, none⟩ 1 1 [.int .i64 (k : Int)] (by simp [Act.eval]) (by exact HIU.out) ?_; intro v8 w8 hw8 hg8 _; have hb8 := hid (Below.grown (show Below W0.heap.size W0 _ by exact K.bsamR HU7.out rfl rfl rfl rfl) hg8 (by exact HU7.out.size) (fun q hq => Nat.le_trans HGG.out.2.2.2.2 (HOQ.out q hq).1)); have hz8 := hid (row_grown2 hzA.out hg8 (fun e => by have := (HOQ.out _ e).2; omega) rfl); have hv8 := hid (row_grown2 hvA.out hg8 (fun e => by have := (HOQ.out _ e).1; have := HGG.out.1; omega) rfl); have ht8 := hid (own_grown2 htA.out hg8 (by cases hq : (Value.slice a9 T.length c9).ownBlock with | none => exact .inl rfl | some j => exact .inr fun e => by (have h1 := (World.ownsRow.lt htA.out j hq).1; have h2 := (HOQ.out j e.symm).2; omega)) rfl); have ho8 := hid hw8; clear hw8 hg8; have hz9 := hid (row_grown (row_grown (row_grown hz8.out (grown_set g7 0 (.int .i64 (p : Int))) (fun e => HGG.out.2.1 (Option.some.inj e))) (grown_set g7 1 (.int .i64 (q : Int))) (fun e => HGG.out.2.1 (Option.some.inj e))) (grown_set g7 2 (.slice a9 T.length c9)) (fun e => HGG.out.2.1 (Option.some.inj e))); have r0 := hv8.out.cell (i := 0) (show _ < 3 by omega); have r1 := hv8.out.cell (i := 1) (show _ < 3 by omega); have r2 := hv8.out.cell (i := 2) (show _ < 3 by omega); have p0 := hv8.out.frozen 0; have p1 := hv8.out.frozen 1; have p2 := hv8.out.frozen 2))
              all_goals
                have hvf := hid (HRP.out _ hv8.out)
                have htf : Hid (RowBR (((w8.setCell ⟨g7, 0, none⟩ (.int .i64 (p : Int))).setCell ⟨g7, 1, none⟩ (.int .i64 (q : Int))).setCell ⟨g7, 2, none⟩ (.slice a9 T.length c9)) w2.heap.size (.slice a9 T.length c9) T) := hid (own_mono2 (own_off (own_off (own_off ht8.out (by have := HGG.out; omega)) (by have := HGG.out; omega)) (by have := HGG.out; omega)) HGG.out.2.2.1)
                have hof : Hid (RowI (((w8.setCell ⟨g7, 0, none⟩ (.int .i64 (p : Int))).setCell ⟨g7, 1, none⟩ (.int .i64 (q : Int))).setCell ⟨g7, 2, none⟩ (.slice a9 T.length c9)) w2.heap.size v8 (I ++ [(k : Int)])) := hid (by
                  unfold RowI
                  rw [List.length_append, List.map_append]
                  exact own_off (own_off (own_off ho8.out HGG.out.1) HGG.out.1) HGG.out.1)
                have hbf := hid (((hb8.out.setCell (p := ⟨g7, 0, none⟩) HGG.out.2.2.2.1 (.int .i64 (p : Int))).setCell (p := ⟨g7, 1, none⟩) HGG.out.2.2.2.1 (.int .i64 (q : Int))).setCell (p := ⟨g7, 2, none⟩) HGG.out.2.2.2.1 (.slice a9 T.length c9))
                have hsf : Hid (w2.heap.size ≤ (((w8.setCell ⟨g7, 0, none⟩ (.int .i64 (p : Int))).setCell ⟨g7, 1, none⟩ (.int .i64 (q : Int))).setCell ⟨g7, 2, none⟩ (.slice a9 T.length c9)).heap.size) := hid (by
                  have h1 := hz8.out.lt
                  have h2 := HGG.out.2.2.1
                  simp [World.setCell]
                  omega)
                clear hz9 hz8 hv8 ht8 ho8 hb8 r0 r1 r2 p0 p1 p2
                go_wp2
                go_roundw
                case rel => exact ⟨k + 1, by omega, by go_num, by rw [HI1.out, HN.out.2.1]; exact hof.out, hbf.out, hsf.out, _, hvf.out, by rw [HS1E.out, HN.out.2.2]; exact htf.out⟩
                case measure => simp [intOf]; omega
        · have hke : k = bs.length := by omega
          subst hke
          rw [List.take_length] at HROW
          obtain ⟨rl, sl, rfl, hrd⟩ := HROW.out.rd
          have HRL := hid hrd
          clear hrd
          go_wp2
          go_ret2
          exact ⟨_, _, rfl, HRL.out, HBW.out⟩
  · have hne : (K.chr m n bs == 0) = false := by rw [beq_eq_false_iff_ne]; exact h0
    have hne2 : (K.chr m n bs != 0) = true := by simpa using h0
    have HRS : Hid (K.trm m n bs = [] ∧ K.tre m n bs = K.chr m n bs) := hid ⟨by unfold K.trm; rw [if_neg (fun h => h0 h.1)], by unfold K.tre; rw [if_neg h0]⟩
    rw [HRS.out.1, HRS.out.2]
    generalize K.chr m n bs = err at *
    clear h0 hm
    unfold K.rk at HFR ⊢
    go_enter Try.func35, Try.ntmps35
    go_wp2_with fail
    refine HFR.out.mono ?_
    rintro e w1 ⟨rfl, hb⟩
    have HBW := hid (HB0.out.trans (hb.mono HB0.out.size))
    clear hb
    go_wp2
    go_ret2
    exact ⟨_, _, rfl, (fun k hk => absurd hk (Nat.not_lt_zero _)), HBW.out⟩
end Go.Proofs.Ytmbfpekcfeeifaa
