/- Package mark: commonCopy. -/
import Derived.Test.YthnklabdjaiplaaDoorMIdx
import Derived.Test.YthnklabdjaiplaaDoorMRow
import Derived.Test.YthnklabdjaiplaaDoorMMem
import Derived.BigQuiet
import Derived.Deep.RegionHeld3
import Derived.Deep.RegionLaw
import Derived.Deep.AppendLies
import Derived.Maps.AppendAt
namespace Go.Proofs.YthnklabdjaiplaaDoor
open Go.RowKit

/-- append onto a slice that the call owns, as a step of a region that draws. -/
theorem step_append_at {P : Program} {ops : Array Oper} {o : Oper} {a : Act} {w : World} {K : Act → World → Prop} {Q : Exit → Act → World → Prop} {E : Prop} (hgd : o.guard = none) (s x : Operand) (t : TypeId)
    (ho : o.op = .call { callee := .builtin .append, args := #[s, x], argTypes := #[t, t] })
    (e : TypeId) (i : TypeInfo) (z : Value) (ht : P.underlying t = some (.slice e)) (hi : P.info? e = some i) (hz : i.zero = some z) (hsize : i.size = 1) (hby : i.bytes ≤ 24) (hzs : z.cells.size = 1)
    (base : Nat) (v : Value) (n : Nat) (xs : List Value) (hs : a.eval s = v) (ad : Addr) (m c : Nat) (news : List Value) (hx : a.eval x = .slice (some ad) m c)
    (hf : w.ownsRow base e 1 v n xs ∧ news.length = m ∧ (∀ j u, news[j]? = some u → w.cell? (ad.add j) = some u) ∧ (∀ u ∈ news, u.oneCell' = true) ∧ n + m ≤ 1000 ∧ base ≤ w.heap.size)
    (h : ∀ v' w', w'.ownsRow base e 1 v' (n + m) (xs ++ news) → w.grownBy w' v.ownBlock → (v'.ownBlock = v.ownBlock ∨ v'.ownBlock = some w.heap.size) → K (a.put o.dst v') w') :
    if Region.wanted o (yielded ops a.tmps) = true then Oper.wp P o a w K Q else E := by
  have hw : Region.wanted o (yielded ops a.tmps) = true := by simp [Region.wanted, hgd]
  rw [if_pos hw]
  obtain ⟨f1, f2, f3, f4, f5, f6⟩ := hf
  obtain ⟨v', w', hr, h2, h3, _, h5⟩ := run_append_own_at (P := P) w base t o.type e i z 1 i.bytes ht hi hz hsize rfl hzs (by decide) v n xs f1 ad m c news (by omega) f3 f4 (by unfold maxLen; omega)
    (by have : (n + m) * i.bytes ≤ 1000 * 24 := Nat.mul_le_mul f5 hby; omega) f6
  unfold Oper.wp execOp
  simp only [ho, resolve, invoke, builtin, Sem.run_bind, Sem.run_pure, Result.andThen_ok, List.map_toArray, List.map_cons, List.map_nil, hs, hx, hr]
  exact h v' w' h2 h3 h5

/-- What all of the first k + 1 coalitions have. -/
def M.cm (T : List (List Int)) (L : List (List Int)) : Nat → Nat → Nat
  | 0 => M.so T (L.getD 0 [])
  | k + 1 => fun j => M.cm T L k j &&& M.so T (L.getD (k + 1) []) j
theorem M.cm_lt {m : Int} {T : List (List Int)} {L : List (List Int)} (h : M.Ok m T) (hin : ∀ i, i < L.length → M.In T.length (L.getD i [])) (h0 : 0 < L.length) : ∀ k j, M.cm T L k j < 16
  | 0, j => M.so_lt h (hin 0 h0) j
  | k + 1, j => Nat.lt_of_le_of_lt Nat.and_le_left (M.cm_lt h hin h0 k j)
def M.cq (T : List (List Int)) (L : List (List Int)) (p : Nat) (x : Int) : Bool := (M.cm T L (L.length - 1) p).testBit (M.mk T x p).toNat
/-- The first member of the first coalition whose mark at a place will do. -/
def M.ci (T : List (List Int)) (L : List (List Int)) (p : Nat) : Int := M.ixf (M.cq T L p) (L.getD 0 [])
/-- The first k marks of the common copy. -/
def M.cwd (T : List (List Int)) (L : List (List Int)) (k : Nat) : List Int := (List.range k).map fun p => M.mk T ((L.getD 0 []).getD (M.ci T L p).toNat 0) p
theorem M.cwd_succ (T : List (List Int)) (L : List (List Int)) (k : Nat) : M.cwd T L (k + 1) = M.cwd T L k ++ [M.mk T ((L.getD 0 []).getD (M.ci T L k).toNat 0) k] := by
  unfold M.cwd; rw [List.range_succ, List.map_append]; rfl
theorem M.cwd_len (T : List (List Int)) (L : List (List Int)) (k : Nat) : (M.cwd T L k).length = k := by simp [M.cwd]
def M.comV (T : List (List Int)) (L : List (List Int)) : List Int × Bool :=
  if (List.range (M.pl T)).all (fun p => decide (0 ≤ M.ci T L p)) = true then (M.cwd T L (M.pl T), true) else ([], false)
theorem M.comV_yes {T L : List (List Int)} (h : ∀ p, p < M.pl T → 0 ≤ M.ci T L p) : M.comV T L = (M.cwd T L (M.pl T), true) := by
  unfold M.comV
  rw [if_pos]
  rw [List.all_eq_true]
  intro p hp
  exact decide_eq_true (h p (by simpa using hp))
theorem M.comV_no {T L : List (List Int)} {p : Nat} (hp : p < M.pl T) (h : M.ci T L p < 0) : M.comV T L = ([], false) := by
  unfold M.comV
  rw [if_neg]
  intro ha
  rw [List.all_eq_true] at ha
  have := of_decide_eq_true (ha p (by simpa using hp))
  omega
theorem M.ixf_lt (q : Int → Bool) (l : List Int) : -1 ≤ M.ixf q l ∧ M.ixf q l < (l.length : Int) := by
  unfold M.ixf
  cases h : (List.range l.length).find? fun i => q (l.getD i 0) with
  | none => dsimp only; omega
  | some i =>
    have := (List.find?_range_eq_some.1 h).2.1
    simp at this
    dsimp only; omega

set_option maxHeartbeats 1000000 in
set_option maxRecDepth 20000 in
theorem commonCopy_any (m : Int) (a : Option Addr) (c : Nat) (T : List (List Int)) (g : Nat) (L : List (List Int)) (w : World) (hok : M.Ok m T) (h2 : 2 ≤ L.length) (h10 : L.length ≤ 10) (hll : ∀ i, i < L.length → (L.getD i []).length ≤ 10) (hin : ∀ i, i < L.length → M.In T.length (L.getD i [])) (hT : RdM w a T) (hL : RdM w (some ⟨g, 0, none⟩) L) :
    Calls Tryd.prog 62 #[M.cv m a T.length c, .slice (some ⟨g, 0, none⟩) L.length L.length] w fun e w' => ∃ v, e = .returned (.tuple #[v, .bool (M.comV T L).2]) ∧ RowI w' w.heap.size v (M.comV T L).1 ∧ Below w.heap.size w w' := by
  obtain ⟨i0, hi, hz0, hz1, hz2⟩ := info_parts (show (Tryd.prog.info? 3).map (fun i => (i.zero, i.size, i.bytes)) = some (some (.int .i64 0), 1, 8) by kernel_rfl)
  obtain ⟨W, hW, c0, c1, hB, hlt⟩ := M.cvNew w m a T.length c
  have HB := hid hB
  have HT := hid (hT.stays hB)
  have HL := hid (hL.stays hB)
  have HOK := hid hok
  have HLL := hid hll
  have HIN := hid hin
  have HSO := hid (fun (i : Nat) (hi : i < L.length) (r : Option Addr) (cr : Nat) (w' : World) (hb : Below W.heap.size W w') (hr : RdI w' r (L.getD i [])) => setsOf_any m a c T r cr (L.getD i []) w' HOK.out (by have := HLL.out i hi; unfold maxLen; omega) (HIN.out i hi) (HT.out.stays hb) hr)
  obtain ⟨b0, o0, r0, cr0, he0, hc0, hr0⟩ := M.row0 HL.out (show 0 < L.length by omega)
  simp only [Option.some.injEq, Addr.mk.injEq, and_true] at he0
  obtain ⟨rfl, rfl⟩ := he0
  have HS0 := hid (HSO.out 0 (by omega) r0 cr0 W (Below.refl _ _) hr0)
  have HR0 := hid hr0
  have HLT := hid (M.cm_lt hok hin (show 0 < L.length by omega))
  have hsl : (0 : Int) ≤ (1 : Int) ∧ (1 : Int) ≤ (L.length : Int) := by omega
  have hsd : ∀ w, (Instr.slice 22 (.slice (some ⟨g, 0, none⟩) L.length L.length) (some (.int .i64 1)) none none).run Tryd.prog w = .ok (.slice (some ⟨g, 1, none⟩) (L.length - 1) (L.length - 1)) w := fun w => by
    rw [run_slice_l (P := Tryd.prog) w 22 (some ⟨g, 0, none⟩) L.length L.length (by kernel_rfl) .i64 1 hsl.1 hsl.2, show (sizeOf (Tryd.prog.elem 22)).run Tryd.prog w = .ok 1 w by kernel_rfl]
    unfold sliced
    rw [show (1 : Int).toNat = 1 from rfl]
    show Result.ok (Value.slice (if L.length = 1 then _ else _) _ _) w = _
    rw [if_neg (by omega)]
    simp [Addr.add]
  rw [show M.so T (L.getD 0 []) = M.cm T L 0 from rfl] at HS0
  have hl0 : (L.getD 0 []).length = M.pl L := rfl
  rw [hl0] at HS0
  unfold M.cv M.av at *
  clear hB hT hL hok hll hin hr0 hl0 hlt
  go_enter Tryd.func62, Tryd.ntmps62
  go_wp2_with fail
  rw [hW] at *
  go_wp2_with fail
  refine HS0.out.mono ?_
  rintro e w1 ⟨rfl, hb1⟩
  have k0 := cell_stays hb1 (Nat.le_refl _) c0
  have k1 := cell_stays hb1 (Nat.le_refl _) c1
  have HB1 := hid hb1
  obtain ⟨cb, hcb⟩ : ∃ cb, w1.heap.size = cb := ⟨_, rfl⟩
  have hz := M.row8 w1 (M.cm T L 0)
  rw [hcb] at hz
  have HCB : Hid (W.heap.size ≤ cb) := hid (by have := hb1.size; omega)
  obtain ⟨w2, hw2⟩ : ∃ w2, w1.alloc (.cells #[.int .i64 (M.cm T L 0 0 : Nat), .int .i64 (M.cm T L 0 1 : Nat), .int .i64 (M.cm T L 0 2 : Nat), .int .i64 (M.cm T L 0 3 : Nat), .int .i64 (M.cm T L 0 4 : Nat), .int .i64 (M.cm T L 0 5 : Nat), .int .i64 (M.cm T L 0 6 : Nat), .int .i64 (M.cm T L 0 7 : Nat)] 79) = w2 := ⟨_, rfl⟩
  rw [hw2] at hz
  have HR2 := hid hz
  have HB2 : Hid (Below W.heap.size W w2) := hid (by
    rw [← hw2]
    exact hb1.alloc hb1.size _)
  have HQ2 : Hid (cb < w2.heap.size) := hid hz.lt
  have HH2 := hid hw2
  have z0 := hb1
  obtain ⟨f0, f1, f2, f3, f4, f5, f6, f7⟩ : M.F8 (w1.alloc (.cells #[.int .i64 0, .int .i64 0, .int .i64 0, .int .i64 0, .int .i64 0, .int .i64 0, .int .i64 0, .int .i64 0] 79)) w1.heap.size := M.f8 (M.row8 w1 (fun _ => 0))
  rw [hcb] at f0 f1 f2 f3 f4 f5 f6 f7
  clear hb1 hz z0 hw2
  go_wp2
  rw [HH2.out]
  clear k0 k1 f0 f1 f2 f3 f4 f5 f6 f7
  have HT2 := hid (HT.out.stays HB2.out)
  go_loopw [22] (fun i wr => ∃ k : Nat, k ≤ L.length - 1 ∧ i = .int .i64 k ∧ wr.rowIs cb 79 8 (M.ac (M.cm T L k)) ∧ Below W.heap.size W wr) (fun i _ => L.length - 1 - (intOf i).toNat)
  case atStart => exact ⟨0, Nat.zero_le _, rfl, HR2.out, HB2.out⟩
  case round =>
    clear HR2 HB2 HQ2 HH2 HT2 hsd HB1
    obtain ⟨k, hk, rfl, hr, hb⟩ := hrel
    have HR := hid hr
    have HBR := hid hb
    have q0 := cell_stays hb (Nat.le_refl _) c0
    have q1 := cell_stays hb (Nat.le_refl _) c1
    by_cases hlt : k < L.length - 1
    · have hk1 : k + 1 < L.length := by omega
      obtain ⟨b3, o3, r3, cr3, he3, hck, hrk⟩ := M.row (HL.out.stays hb) hk1
      simp only [Option.some.injEq, Addr.mk.injEq, and_true] at he3
      obtain ⟨rfl, rfl⟩ := he3
      rw [show 0 + (k + 1) = 1 + k by omega] at hck
      have HSK := hid (fun (w' : World) (hb' : Below wr.heap.size wr w') => HSO.out (k + 1) hk1 r3 cr3 w' (hb.trans (hb'.mono hb.size)) (hrk.stays hb'))
      have HAN := hid (fun w' => and_any (M.cm T L k) (M.so T (L.getD (k + 1) [])) w' (HLT.out k) (M.so_lt HOK.out (HIN.out (k + 1) hk1)))
      have HCM : Hid (∀ w' : World, w'.rowIs cb 79 8 (M.ac fun j => M.cm T L k j &&& M.so T (L.getD (k + 1) []) j) → w'.rowIs cb 79 8 (M.ac (M.cm T L (k + 1)))) := hid (fun _ h => h)
      obtain ⟨e0, e1, e2, e3, e4, e5, e6, e7⟩ := M.c8 hr
      unfold M.av at HSK HAN
      generalize hsx : M.so T (L.getD (k + 1) []) = sx at *
      generalize hcm : M.cm T L k = ck at *
      generalize L.getD (k + 1) [] = row at *
      clear hr hb hrk hsx hcm
      go_wp2_with fail
      go_region_with (first
        | (go_at_call 47; (with_reducible first | refine (HSK.out _ (Below.refl _ _).drew).mono ?_ | refine (HSK.out _ (Below.refl _ _)).mono ?_); rintro e w5 ⟨rfl, hb5⟩; have R5 : w5.rowIs cb 79 8 (M.ac ck) := HR.out.of_block (hb5.block _ HR.out.lt); have HR5 := hid R5; obtain ⟨e0, e1, e2, e3, e4, e5, e6, e7⟩ := M.c8 R5; have HB5 := hid ((HBR.out.drew).trans (hb5.mono HBR.out.size)); clear hb5 R5)
        | (go_at_call 78; (with_reducible refine (HAN.out _).mono ?_); rintro e w6 ⟨rfl, hb6⟩; have R6 : w6.rowIs cb 79 8 (M.ac ck) := HR5.out.of_block (hb6.block _ HR5.out.lt); have HR6 := hid R6; obtain ⟨f0, f1, f2, f3, f4, f5, f6, f7⟩ := M.f8 R6; obtain ⟨d0, d1, d2, d3, d4, d5, d6, d7⟩ := M.c8 R6; have HB6 := hid (HB5.out.trans (hb6.mono HB5.out.size)); clear hb6 R6))
      all_goals
        have HP := hid (HCM.out _ (M.put8_row HR6.out (fun j => ck j &&& sx j)))
        have HPB := hid (M.put8_below HB6.out HCB.out (fun j => ck j &&& sx j))
        go_wp2
        go_roundw
        case rel => exact ⟨k + 1, by omega, by go_num, HP.out, HPB.out⟩
        case measure => simp [intOf]; omega
    · have hke : k = L.length - 1 := by omega
      subst hke
      have HCC := hid hr
      have HBC := hid hb
      have HTW := hid (HT.out.stays hb)
      have HRW := hid (HR0.out.stays hb)
      obtain ⟨bT, oT, rT, cT, heT, hcT, -⟩ := M.row0 HTW.out HOK.out.n1
      subst heT
      have HLTC := hid (HLT.out (L.length - 1))
      have HCQ : Hid (∀ p x, M.cq T L p x = (M.cm T L (L.length - 1) p).testBit (M.mk T x p).toNat) := hid (fun _ _ => rfl)
      have HCI : Hid (∀ p, M.ixf (M.cq T L p) (L.getD 0 []) = M.ci T L p) := hid (fun _ => rfl)
      have HCIL := hid (fun p => M.ixf_lt (M.cq T L p) (L.getD 0 []))
      have HCB2 := hid hr.lt
      have hp8 := HOK.out.p8
      have hT1 : (0 : Int) < (T.length : Int) := by have := HOK.out.n1; omega
      generalize M.cm T L (L.length - 1) = C at *
      clear HR HBR hr hb hlt hk
      generalize wr = w3 at *
      go_wp2
      go_loopw [10, 37] (fun v i wr => ∃ p : Nat, p ≤ M.pl T ∧ i = .int .i64 p ∧ RowI wr w3.heap.size v (M.cwd T L p) ∧ (∀ q, q < p → 0 ≤ M.ci T L q) ∧ Below w3.heap.size w3 wr) (fun _ i _ => M.pl T - (intOf i).toNat)
      case atStart => exact ⟨0, Nat.zero_le _, rfl, RowI.nil _ _, fun q hq => absurd hq (Nat.not_lt_zero _), Below.refl _ _⟩
      case round =>
        obtain ⟨p, hp, rfl, hrow, hge, hb⟩ := hrel
        have HROW := hid hrow
        have HGE := hid hge
        have HBP := hid hb
        have p1 := cell_stays hb (Nat.le_refl _) q1
        clear hrow hge
        by_cases hlt : p < M.pl T
        · obtain ⟨W5, hW5⟩ : ∃ W5, wr.alloc (.cells #[.int .i64 (p : Nat)] 3) = W5 := ⟨_, rfl⟩
          have hb5 : Below wr.heap.size wr W5 := by rw [← hW5]; exact (Below.refl _ _).alloc (Nat.le_refl _) _
          have hpc : W5.cell? ⟨wr.heap.size, 0, none⟩ = some (.int .i64 (p : Nat)) := by rw [← hW5, World.cell?_alloc_at _ _ _ _ rfl]; rfl
          have hb35 := hb.trans (hb5.mono hb.size)
          have HIX := hid (indexFunc_any r0 cr0 (L.getD 0 []) cb wr.heap.size w.heap.size (M.cq T L p) W5 (by have := HLL.out 0 (by omega); unfold maxLen; omega) (HRW.out.stays hb35) (fun k hk w' hbw => by
            rw [HCQ.out]
            exact copyClo_any m (some ⟨bT, oT, none⟩) c T cb wr.heap.size w.heap.size C p ((L.getD 0 []).getD k 0) w' HOK.out HLTC.out hlt ((HIN.out 0 (by omega)).at hk) ((HTW.out.stays hb35).stays hbw) (HCC.out.of_block ((hbw.block _ (Nat.lt_of_lt_of_le HCB2.out hb35.size)).trans (hb35.block _ HCB2.out))) (cell_stays hbw (Nat.le_refl _) hpc) (cell_stays hbw (Nat.le_refl _) (cell_stays hb5 (Nat.le_refl _) p1))))
          rw [HCI.out p] at HIX
          have hl0 : (L.getD 0 []).length = M.pl L := rfl
          rw [hl0] at HIX
          have HP5 := hid hb5
          clear hb5 hb35 hl0
          go_wp2_with fail
          refine HIX.out.mono ?_
          rintro e w6 ⟨rfl, hb6⟩
          have HB36 := hid (HBP.out.trans ((HP5.out.trans (hb6.mono HP5.out.size)).mono HBP.out.size))
          have HBW6 := hid (HBC.out.trans (HB36.out.mono HBC.out.size))
          have p2 := cell_stays HB36.out (Nat.le_refl _) q1
          have pc6 := cell_stays hb6 (Nat.le_refl _) hpc
          have hcl := HCIL.out p
          rw [HCI.out p] at hcl
          have HB56 := hid (HP5.out.trans (hb6.mono HP5.out.size))
          clear hb hb6 hW5 hpc p1
          by_cases hneg : M.ci T L p < 0
          · have HV := hid (M.comV_no hlt hneg)
            generalize M.ci T L p = z at *
            go_wp2
            go_ret2
            exact ⟨_, by rw [HV.out]; rfl, by rw [HV.out]; exact RowI.nil _ _, HB.out.trans (HBW6.out.mono HB.out.size)⟩
          · have hneg' : decide (M.ci T L p < 0) = false := by simpa using hneg
            obtain ⟨ix, hix⟩ : ∃ ix : Nat, M.ci T L p = (ix : Int) := ⟨(M.ci T L p).toNat, by omega⟩
            have hixl : ix < (L.getD 0 []).length := by omega
            have hmem := (HIN.out 0 (by omega)).at hixl
            obtain ⟨bF, oF, heF, hcF⟩ := M.num (HRW.out.stays HB36.out) hixl
            subst heF
            obtain ⟨b5, o5, r5, c5, he5, hc5, hr5⟩ := M.row (HTW.out.stays HB36.out) (i := ((L.getD 0 []).getD ix 0).toNat) (by omega)
            simp only [Option.some.injEq, Addr.mk.injEq, and_true] at he5
            obtain ⟨rfl, rfl⟩ := he5
            have hl5 := HOK.out.len ((L.getD 0 []).getD ix 0).toNat (by omega)
            obtain ⟨b6, o6, he6, hc6⟩ := M.num hr5 (show p < (T.getD ((L.getD 0 []).getD ix 0).toNat []).length by rw [hl5]; exact hlt)
            subst he6
            rw [hl5] at hc5
            have HWS : Hid (M.cwd T L (p + 1) = M.cwd T L p ++ [M.mk T ((L.getD 0 []).getD ix 0) p]) := hid (by rw [M.cwd_succ, hix, Int.toNat_natCast])
            have hmk : (T.getD ((L.getD 0 []).getD ix 0).toNat []).getD p 0 = M.mk T ((L.getD 0 []).getD ix 0) p := rfl
            rw [hmk] at hc6
            have HGE2 : Hid (∀ q, q < p + 1 → 0 ≤ M.ci T L q) := hid (fun q hq => by
              rcases Nat.lt_succ_iff_lt_or_eq.1 hq with h1 | rfl
              · exact HGE.out q h1
              · omega)
            have hwl := M.cwd_len T L p
            have HR6 := hid (HROW.out.stays HB56.out)
            have hx1 : (0 : Int) ≤ (ix : Int) ∧ (ix : Int) < (M.pl L : Int) := by
              have : (L.getD 0 []).length = M.pl L := rfl
              omega
            have hx2 : (0 : Int) ≤ (L.getD 0 []).getD ix 0 ∧ (L.getD 0 []).getD ix 0 < (T.length : Int) := hmem
            have hx3 : (0 : Int) ≤ (p : Int) ∧ (p : Int) < (M.pl T : Int) := by omega
            rw [hix]
            generalize M.mk T ((L.getD 0 []).getD ix 0) p = y at *
            generalize (L.getD 0 []).getD ix 0 = x at *
            generalize M.cwd T L p = F at *
            obtain ⟨a9, c9, hv9, -⟩ := HR6.out.rd
            have hv9' : u10 = .slice a9 F.length c9 := hv9
            subst hv9'
            have FA := hid (fun (W' : World) (hW' : W'.heap = (w6.alloc (.cells #[.int .i64 y] 3)).heap) => (⟨by
              have := World.ownsRow.alloc HR6.out (.cells #[.int .i64 y] 3)
              unfold World.ownsRow at this ⊢
              rw [hW']
              exact this, rfl, fun j u hj => by
              have := cell_one_new w6 (.int .i64 y) 3 j u hj
              rw [← this]
              exact World.cell?_of_block (by rw [hW']), fun u hu => by rw [List.mem_singleton.1 hu]; rfl, by omega, by rw [hW']; have := HB36.out.size; simp; omega⟩ : W'.ownsRow w3.heap.size 3 1 (.slice a9 F.length c9) F.length (F.map (Value.int .i64)) ∧ ([Value.int .i64 y] : List Value).length = 1 ∧ (∀ j u, ([Value.int .i64 y] : List Value)[j]? = some u → W'.cell? ((⟨w6.heap.size, 0, none⟩ : Addr).add j) = some u) ∧ (∀ u ∈ ([Value.int .i64 y] : List Value), u.oneCell' = true) ∧ F.length + 1 ≤ 1000 ∧ w3.heap.size ≤ W'.heap.size))
            clear hneg hneg' hix hixl hmem hr5 hl5 hmk hcl hwl hv9
            go_wp2_with fail
            go_region_law first | (refine step_append_at rfl (.tmp 45) (.tmp 57) 25 (by rfl) 3 i0 (.int .i64 0) Tryd.underlying25 hi hz0 hz1 (by rw [hz2]; decide) rfl w3.heap.size (.slice a9 F.length c9) F.length (F.map (Value.int .i64)) (by simp [Act.eval]) ⟨w6.heap.size, 0, none⟩ 1 1 [.int .i64 y] (by simp [Act.eval]) (FA.out _ rfl) ?_; intro v1 w7 ho1 hg1 ha1)
            all_goals
              have HB7 := hid (Below.grown (HB36.out.alloc HB36.out.size (.cells #[.int .i64 y] 3)).drew hg1 (by have := HB36.out.size; simp; omega) (fun q hq => (World.ownsRow.lt HR6.out q hq).1))
              have HO7 : Hid (RowI w7 w3.heap.size v1 (M.cwd T L (p + 1))) := hid (by rw [HWS.out]; exact RowI.push ho1)
              clear ho1 hg1 ha1
              go_wp2
              go_roundw
              case rel => exact ⟨p + 1, by omega, by go_num, HO7.out, HGE2.out, HB7.out⟩
              case measure => simp [intOf]; omega
        · have hpe : p = M.pl T := by omega
          subst hpe
          have HV := hid (M.comV_yes HGE.out)
          obtain ⟨a9, c9, hv9, hrd⟩ := HROW.out.rd
          have hv9' : u10 = .slice a9 (M.cwd T L (M.pl T)).length c9 := hv9
          subst hv9'
          have HRD := hid hrd
          clear hrd hv9 hb
          go_wp2
          go_ret2
          exact ⟨_, by rw [HV.out]; rfl, by rw [HV.out]; exact HROW.out.mono (by have := HBC.out.size; have := HB.out.size; omega), HB.out.trans ((HBC.out.trans (HBP.out.mono HBC.out.size)).mono HB.out.size)⟩
end Go.Proofs.YthnklabdjaiplaaDoor
