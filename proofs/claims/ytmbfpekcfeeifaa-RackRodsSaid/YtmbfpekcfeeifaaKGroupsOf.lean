/- Package rack: the walk of groupsOf. -/
import Derived.Test.YtmbfpekcfeeifaaKInner
import Derived.Laws.EntriesVeiled
import Derived.Deep.RegionLaw
import Derived.Lib.SliceRun
import Derived.BigRegion
import Derived.RegionTactic
namespace Go.Proofs.Ytmbfpekcfeeifaa
open Go.RowKit

theorem step_append_at {P : Program} {ops : Array Oper} {o : Oper} {a : Act} {w : World} {K : Act → World → Prop} {Q : Exit → Act → World → Prop} {E : Prop} (hgd : o.guard = none) (s x : Operand) (t : TypeId)
    (ho : o.op = .call { callee := .builtin .append, args := #[s, x], argTypes := #[t, t] })
    (e : TypeId) (i : TypeInfo) (z : Value) (ht : P.underlying t = some (.slice e)) (hi : P.info? e = some i) (hz : i.zero = some z) (hsize : i.size = 1) (hby : i.bytes ≤ 24) (hzs : z.cells.size = 1)
    (base : Nat) (v : Value) (n : Nat) (xs : List Value) (hs : a.eval s = v) (ad : Addr) (m c : Nat) (news : List Value) (hx : a.eval x = .slice (some ad) m c)
    (hf : w.ownsRow base e 1 v n xs ∧ news.length = m ∧ (∀ j u, news[j]? = some u → w.cell? (ad.add j) = some u) ∧ (∀ u ∈ news, u.oneCell' = true) ∧ n + m ≤ 1000 ∧ base ≤ w.heap.size)
    (h : ∀ v' w', w'.ownsRow base e 1 v' (n + m) (xs ++ news) → w.grownBy w' v.ownBlock → (v'.ownBlock = v.ownBlock ∨ v'.ownBlock = some w.heap.size) → K (a.put o.dst v') w') :
    if Region.wanted o (yielded ops a.tmps) = true then Oper.wp P o a w K Q else E := by
  have hw : Region.wanted o (yielded ops a.tmps) = true := by simp [Region.wanted, hgd]
  rw [if_pos hw]
  obtain ⟨f1, f2, f3, f4, f5, f6⟩ := hf
  obtain ⟨v', w', hr, h2, h3, _, h5⟩ := run_append_own_at (P := P) w base t o.type e i z 1 i.bytes ht hi hz hsize rfl hzs (by decide) v n xs f1 ad m c news (by omega) f3 f4 (by unfold maxLen; omega)
    (by have : (n + m) * i.bytes ≤ 1000 * 24 := Nat.mul_le_mul f5 hby; omega) f6
  unfold Oper.wp execOp
  simp only [ho, resolve, invoke, builtin, Sem.run_bind, Sem.run_pure, Result.andThen_ok, List.map_toArray, List.map_cons, List.map_nil, hs, hx, hr]
  exact h v' w' h2 h3 h5

/-- Groups, returned. -/
def K.Gs (gs : List (List Int × List Int)) (w : World) (e : Ending) (w' : World) : Prop := ∃ v lo hi, e = .returned v ∧ GsAt w' lo hi v gs ∧ Below w.heap.size w w'
/-- The head of a round of the outer loop. -/
def K.Outer (w0 : World) (g gb m n : Nat) (sl : Value) (M : Nat → Nat → Bool) (N p : Nat) (gsV : Value) (w : World) : Prop :=
  GsAt w (gb + 1) w.heap.size gsV (K.gs M m N p) ∧ PassAt w gb (K.mk M N p 0) ∧ ArrAt w g m n sl M ∧ Below w0.heap.size w0 w ∧ gb < w.heap.size
/-- And of the inner one. -/
def K.Innr (w0 : World) (g gb gv m n : Nat) (sl : Value) (M : Nat → Nat → Bool) (N p j : Nat) (gsV : Value) (w : World) : Prop :=
  ∃ rv cv b2, K.Inner w0 w g gb gv m n sl gsV rv cv M (K.mk M N p j) (K.gs M m N p) (K.rw M m p j) (K.cl M m p j) b2 ∧ (j ≤ m → cv = .slice none 0 0)

set_option maxHeartbeats 8000000 in
set_option maxRecDepth 100000 in
theorem groupsOf_any (m n : Nat) (a : Option Addr) (c : Nat) (bs : List Br) (w : World) (hm : bs.length ≤ maxLen) (hR : RdB w a bs) (h1 : m ≤ 6) (h2 : n ≤ 6) (hv : ∀ b ∈ bs, K.InB m n b) :
    Calls Try.prog 55 #[K.rk m n a bs.length c] w (K.Gs (K.gs (K.leads m bs) m (m + n) (m + n)) w) := by
  have hb0 : Below w.heap.size w (w.alloc (.cells #[.int .i64 (m : Int), .int .i64 (n : Int), .slice a bs.length c] 24)) := (Below.refl _ _).alloc (Nat.le_refl _) _
  have HB0 := hid hb0
  have HAO := hid (arrowsOf_any m n a c bs _ hm (hR.stays hb0) h1 h2 hv)
  have HM := hid (K.leads_bnd h1 h2 hv)
  obtain ⟨i0, hi, hz0, hz1, hz2⟩ := info_parts (show (Try.prog.info? 3).map (fun i => (i.zero, i.size, i.bytes)) = some (some (.int .i64 0), 1, 8) by kernel_rfl)
  obtain ⟨i1, ji, jz0, jz1, jz2⟩ := info_parts (show (Try.prog.info? 85).map (fun i => (i.zero, i.size, i.bytes)) = some (some (.agg #[.slice none 0 0, .slice none 0 0]), 2, 48) by kernel_rfl)
  clear hb0 hR hv
  unfold K.rk at HAO ⊢
  go_enter Try.func55, Try.ntmps55
  go_wp2_with fail
  generalize hw1 : w.alloc (.cells #[.int .i64 (m : Int), .int .i64 (n : Int), .slice a bs.length c] 24) = w1 at *
  clear hw1
  refine HAO.out.mono ?_
  rintro e w2 ⟨g, rfl, hg, hA, hb⟩
  have HA := hid hA
  have HB2 := hid (HB0.out.trans (hb.mono HB0.out.size))
  have HG : Hid (w.heap.size ≤ g) := hid (Nat.le_trans HB0.out.size hg)
  have hgl : g < w2.heap.size := hA.lt
  clear hA hb hg HAO HB0
  generalize K.leads m bs = M at *
  generalize Value.slice a bs.length c = sl at *
  have HP3 := hid (places_any g m n sl M (w2.alloc (.cells #[.bool false, .bool false, .bool false, .bool false, .bool false, .bool false, .bool false, .bool false, .bool false, .bool false, .bool false, .bool false] 115)) (HA.out.alloc _) h1 h2)
  have HPS := hid (pass_new w2)
  go_wp2_with fail
  refine HP3.out.mono ?_
  rintro e w3 ⟨rfl, q, rfl⟩
  have HO : Hid (K.Outer w g w2.heap.size m n sl M (m + n) 0 (.slice none 0 0) ((w2.alloc (.cells #[.bool false, .bool false, .bool false, .bool false, .bool false, .bool false, .bool false, .bool false, .bool false, .bool false, .bool false, .bool false] 115)).drewN q)) := hid (by
    refine ⟨GsAt.nil _ _ _, ?_, HA.out.alloc _, below_drewN (HB2.out.alloc HB2.out.size _) _, by simp⟩
    rw [K.mk_zero]; exact HPS.out)
  generalize (w2.alloc (.cells #[.bool false, .bool false, .bool false, .bool false, .bool false, .bool false, .bool false, .bool false, .bool false, .bool false, .bool false, .bool false] 115)).drewN q = w4 at *
  have HGB : Hid (g < w2.heap.size) := hid hgl
  have HGB2 : Hid (w.heap.size ≤ w2.heap.size) := hid HB2.out.size
  clear HP3 HPS HA HB2 hgl
  generalize w2.heap.size = gb at *
  clear w2
  go_wp2
  go_loopw [6, 16] (fun s i wr => ∃ p : Nat, p ≤ m + n ∧ i = .int .i64 p ∧ K.Outer w g gb m n sl M (m + n) p s wr) (fun _ i _ => m + n - (intOf i).toNat)
  case atStart => exact ⟨0, Nat.zero_le _, rfl, HO.out⟩
  case round =>
    clear HO
    obtain ⟨p, hp, rfl, hgs, hps, har, hbl, hgb⟩ := hrel
    have HGS := hid hgs
    have HPS := hid hps
    have HAR := hid har
    have HBL := hid hbl
    clear hgs hps har hbl
    by_cases hlt : p < m + n
    · have hp12 : p < 12 := by omega
      have cp := HPS.out.at hp12
      have hmk : K.mk (M) (m + n) p 0 p = K.grouped M p p := by rw [K.mk_start, decide_eq_true hlt]; simp
      rw [hmk] at cp
      clear hmk
      have hix : (0 : Int) ≤ (p : Int) ∧ (p : Int) < 12 := by omega
      cases hgr : K.grouped M p p with
      | true =>
        rw [hgr] at cp
        have HN : Hid (K.gs M m (m + n) (p + 1) = K.gs M m (m + n) p) := hid (by rw [K.gs, if_pos hgr])
        have HK : Hid (K.mk M (m + n) p 0 = K.mk M (m + n) (p + 1) 0) := hid (K.mk_skip hgr)
        clear hgr
        go_wp2
        go_roundw
        case rel => exact ⟨p + 1, by omega, by go_num, by unfold K.Outer; rw [HN.out, ← HK.out]; exact ⟨HGS.out, HPS.out, HAR.out, HBL.out, hgb⟩⟩
        case measure => simp [intOf]; omega
      | false =>
        rw [hgr] at cp
        have HN : Hid (K.gs M m (m + n) (p + 1) = K.gs M m (m + n) p ++ [(K.rw M m p (m + n), K.cl M m p (m + n))]) := hid (by rw [K.gs, if_neg (by rw [hgr]; simp)])
        clear hgr
        have hal : Below wr.heap.size wr (wr.alloc (.cells #[.slice none 0 0, .slice none 0 0] 85)) := (Below.refl _ _).alloc (Nat.le_refl _) _
        have hsz : wr.heap.size < (wr.alloc (.cells #[.slice none 0 0, .slice none 0 0] 85)).heap.size := by simp
        have HI : Hid (K.Innr w g gb wr.heap.size m n sl M (m + n) p 0 u6 (wr.alloc (.cells #[.slice none 0 0, .slice none 0 0] 85))) := hid ⟨.slice none 0 0, .slice none 0 0, wr.heap.size + 1,
          ⟨(World.rowIs_alloc wr #[.slice none 0 0, .slice none 0 0] 85 _ (fun i hi => by
            have h : i < 2 := hi
            have h2 : i = 0 ∨ i = 1 := by omega
            rcases h2 with rfl | rfl <;> rfl)), World.ownsRow_nil _ _ _ _, World.ownsRow_nil _ _ _ _, Nat.le_refl _, hsz, (fun q hq => by cases hq), HPS.out.alloc _, HAR.out.alloc _, HGS.out.kept (grown_below hal) (fun q hq => by cases hq), HBL.out.trans (hal.mono HBL.out.size), HGB.out, hgb, HGB2.out⟩, fun _ => rfl⟩
        have HPL := hid (places_any g m n sl M (wr.alloc (.cells #[.slice none 0 0, .slice none 0 0] 85)) (HAR.out.alloc _) h1 h2)
        have HGV : Hid (gb < wr.heap.size) := hid hgb
        clear hal hsz HGS HPS HAR HBL hgb
        go_wp2_with fail
        refine HPL.out.mono ?_
        rintro e w5 ⟨rfl, q5, rfl⟩
        have HI0 : Hid (K.Innr w g gb wr.heap.size m n sl M (m + n) p 0 u6 ((wr.alloc (.cells #[.slice none 0 0, .slice none 0 0] 85)).drewN q5)) := hid (by
          obtain ⟨rv, cv, b2, hin, hnil⟩ := HI.out
          exact ⟨rv, cv, b2, hin.grown (below_drewN (Below.refl _ _) _), hnil⟩)
        clear HI HPL cp
        generalize (wr.alloc (.cells #[.slice none 0 0, .slice none 0 0] 85)).drewN q5 = w5 at *
        generalize wr.heap.size = gv at *
        clear wr
        go_wp2
        go_loopw [24] (fun i wr => ∃ j : Nat, j ≤ m + n ∧ i = .int .i64 j ∧ K.Innr w g gb gv m n sl M (m + n) p j u6 wr) (fun i _ => m + n - (intOf i).toNat)
        case atStart => exact ⟨0, Nat.zero_le _, rfl, HI0.out⟩
        case round =>
          obtain ⟨j, hj, rfl, hinn⟩ := hrel
          by_cases hjl : j < m + n
          · obtain ⟨rv, cv, b2, hin, hnil⟩ := hinn
            have HII := hid hin
            have HNL := hid hnil
            have HTG := hid (together_T g m n sl M p j wr hp12 (by omega) HM.out hin.arr)
            clear hin hnil
            cases hT : K.T M p j with
            | false =>
              rw [hT] at HTG
              have HMK := hid (K.mk_miss (N := m + n) hT)
              have HRW : Hid (K.rw M m p (j + 1) = K.rw M m p j) := hid (by rw [K.rw, if_neg (by rw [hT]; simp)])
              have HCW : Hid (K.cl M m p (j + 1) = K.cl M m p j) := hid (by rw [K.cl, if_neg (by rw [hT]; simp)])
              clear hT
              go_wp2_with fail
              refine HTG.out.mono ?_
              rintro e w6 ⟨rfl, hb⟩
              have HI6 := hid (HII.out.grown hb)
              clear hb
              go_wp2
              go_roundw
              case rel => exact ⟨j + 1, by omega, by go_num, rv, cv, b2, by rw [HRW.out, HCW.out, ← HMK.out]; exact HI6.out, fun h => HNL.out (by omega)⟩
              case measure => simp [intOf]; omega
            | true =>
              rw [hT] at HTG
              have HMK := hid (K.mk_hit (N := m + n) hT)
              have HTT := hid hT
              have hj12 : j < 12 := by omega
              clear hT
              go_wp2_with fail
              refine HTG.out.mono ?_
              rintro e w6 ⟨rfl, hb⟩
              have HI6 := hid (HII.out.grown hb)
              have HI7 := hid (HI6.out.mark j)
              rw [HMK.out] at HI7
              have y1 := HI6.out.pass.at hj12
              have f1 : ∀ k, w6.frozen? ⟨gb, k, none⟩ = false := fun k => HI6.out.pass.frozen k
              have y0 := HI6.out.arr.rows
              have n1 : g ≠ gb := by have := HI6.out.o1; omega
              have n2 : gv ≠ gb := by have := HI6.out.o2; omega
              have ii : (0 : Int) ≤ (j : Int) ∧ (j : Int) < 12 := by omega
              have l1 : gb < w6.heap.size := HI6.out.pass.lt
              have l2 : gv < w6.heap.size := HI6.out.var.lt
              have l3 : g < w6.heap.size := HI6.out.arr.lt
              have v0 : w6.cell? ⟨gv, 0, none⟩ = some rv := HI6.out.var.cell (i := 0) (by omega)
              have v1 : w6.cell? ⟨gv, 1, none⟩ = some cv := HI6.out.var.cell (i := 1) (by omega)
              have f2 : ∀ k, w6.frozen? ⟨gv, k, none⟩ = false := fun k => HI6.out.var.frozen k
              clear hb HTG HII
              by_cases hjm : j < m
              · have HCV := hid (HNL.out (by omega))
                have HCE : Hid (K.cl M m p j = []) := hid (K.cl_low (by omega))
                have HRW : Hid (K.rw M m p (j + 1) = K.rw M m p j ++ [(j : Int)]) := hid (by rw [K.rw, if_pos ⟨hjm, HTT.out⟩])
                have HCW : Hid (K.cl M m p (j + 1) = []) := hid (K.cl_low (by omega))
                have HRL := hid (K.rw_len M m p j)
                have HI8 := hid (HI7.out.grown ((Below.refl (w6.setCell ⟨gb, j, none⟩ (.bool true)).heap.size _).alloc (Nat.le_refl _) (.cells #[.int .i64 (j : Int)] 3)))
                clear HI6 HI7 HMK
                go_wp2_with (at_builtin; refine wpList_append_own _ rfl _ _ 40 rfl (gv + 1) 3 i0 (.int .i64 0) 1 8 Try.underlying40 hi hz0 hz1 hz2 rfl (by decide) _ _ _ rfl HI8.out.rows ⟨w6.heap.size, 0, none⟩ 1 1 [.int .i64 (j : Int)] rfl rfl ?c1 ?c2 ?c3 ?c4 ?c5 ?_)
                case c1 =>
                  intro k u hk
                  match k, hk with
                  | 0, hk =>
                    simp at hk; subst hk
                    rw [Addr.add_lit, World.cell?_alloc_at _ _ _ _ (by simp)]
                    rfl
                case c2 => intro u hu; simp at hu; subst hu; rfl
                case c3 => have := HRL.out; unfold maxLen; omega
                case c4 => have := HRL.out; omega
                case c5 => simp; omega
                intro v' w8 hown hgrow _
                obtain ⟨g', cap', rfl, k1, k2, HI9⟩ := HI8.out.rowStep HCV.out HCE.out HRW.out hown hgrow
                clear hown hgrow HI8 y1 y0 f1 f2 v0 v1
                go_wp2
                go_roundw
                case rel => exact ⟨j + 1, by omega, by go_num, _, _, _, by rw [HCW.out]; exact HI9.out, fun _ => rfl⟩
                case measure => simp [intOf]; omega
              · have HRW : Hid (K.rw M m p (j + 1) = K.rw M m p j) := hid (by rw [K.rw, if_neg (fun h => hjm h.1)])
                have HCW : Hid (K.cl M m p (j + 1) = K.cl M m p j ++ [((j - m : Nat) : Int)]) := hid (by rw [K.cl, if_pos ⟨hjm, HTT.out⟩])
                have HRL := hid (K.cl_len M m p j)
                go_wp2
                generalize w6.setCell ⟨gb, j, none⟩ (.bool true) = w7 at *
                clear y1 f1 y0 l1 l2 l3 v0 v1 f2 HI6 HMK
                have hsub : IntKind.i64.wrap ((j : Int) - (m : Int)) = ((j - m : Nat) : Int) := by rw [IntWalk.i64_in _ (by omega)]; omega
                have HSZ : Hid (w7.heap.size ≤ (w7.alloc (.cells #[.int .i64 ((j - m : Nat) : Int)] 3)).heap.size) := hid (by simp)
                have HBK : Hid (∀ k, k < w7.heap.size → (w7.alloc (.cells #[.int .i64 ((j - m : Nat) : Int)] 3)).heap[k]? = w7.heap[k]?) := hid (fun k hk => Below.heap_alloc _ _ _ hk)
                have FI := hid (fun (W : World) (hW : Below w7.heap.size w7 W) => HI7.out.grown hW)
                have FA := hid (show ∀ W : World, Below w7.heap.size w7 W → W.heap = (w7.alloc (.cells #[.int .i64 ((j - m : Nat) : Int)] 3)).heap → W.ownsRow b2 3 1 cv (K.cl M m p j).length ((K.cl M m p j).map (Value.int .i64)) ∧ [Value.int .i64 ((j - m : Nat) : Int)].length = 1 ∧ (∀ k u, [Value.int .i64 ((j - m : Nat) : Int)][k]? = some u → W.cell? ((⟨w7.heap.size, 0, none⟩ : Addr).add k) = some u) ∧ (∀ u ∈ [Value.int .i64 ((j - m : Nat) : Int)], u.oneCell' = true) ∧ (K.cl M m p j).length + 1 ≤ 1000 ∧ b2 ≤ W.heap.size from fun W hb hW => by
                  have hI := HI7.out.grown hb
                  refine ⟨hI.cols, rfl, ?_, fun u hu => by simp at hu; subst hu; rfl, by have := HRL.out; omega, hI.b2'⟩
                  intro k u hk
                  match k, hk with
                  | 0, hk =>
                    simp at hk; subst hk
                    rw [Addr.add_lit, World.cell?_of_block (w := w7.alloc (.cells #[.int .i64 ((j - m : Nat) : Int)] 3)) (by rw [hW]), World.cell?_alloc_at _ _ _ _ rfl]
                    rfl)
                have v1 : w7.cell? ⟨gv, 1, none⟩ = some cv := HI7.out.var.cell (i := 1) (by omega)
                have v0 : w7.cell? ⟨g, 0, none⟩ = some (.int .i64 m) := HI7.out.arr.rows
                have g1 : gv < w7.heap.size := HI7.out.var.lt
                have g2 : g < w7.heap.size := HI7.out.arr.lt
                go_region_law first | (refine step_append_at rfl (.tmp 48) (.tmp 56) 40 (by rfl) 3 i0 (.int .i64 0) Try.underlying40 hi hz0 hz1 (by rw [hz2]; decide) rfl b2 cv (K.cl M m p j).length ((K.cl M m p j).map (Value.int .i64)) (by simp [Act.eval]) ⟨w7.heap.size, 0, none⟩ 1 1 [.int .i64 ((j - m : Nat) : Int)] (by simp [Act.eval]) (FA.out _ (by exact ⟨rfl, rfl, rfl, HSZ.out, HBK.out⟩) rfl) ?_; intro v1 w8 ho1 hg1 _; obtain ⟨g', cap', rfl, k1, k2, k3, HI9⟩ := (FI.out _ (by exact ⟨rfl, rfl, rfl, HSZ.out, HBK.out⟩)).colStep HCW.out ho1 hg1; clear ho1 hg1)
                all_goals
                  go_wp2
                  go_roundw
                  case rel => exact ⟨j + 1, by omega, by go_num, _, _, _, by rw [HRW.out]; exact HI9.out, fun h => absurd h (by omega)⟩
                  case measure => simp [intOf]; omega
          · have hje : j = m + n := by omega
            subst hje
            obtain ⟨rv, cv, b2, hin, _⟩ := hinn
            obtain ⟨ra, rc, rfl, _⟩ := hin.rows.rd
            obtain ⟨ca, cc, rfl, _⟩ := hin.cols.rd
            obtain ⟨vs, e1, e2, e3⟩ := hin.gs'.ex
            have v0 : wr.cell? ⟨gv, 0, none⟩ = some (.slice ra (K.rw M m p (m + n)).length rc) := hin.var.cell (i := 0) (by omega)
            have v1 : wr.cell? ⟨gv, 1, none⟩ = some (.slice ca (K.cl M m p (m + n)).length cc) := hin.var.cell (i := 1) (by omega)
            have g1 : gv < wr.heap.size := hin.var.lt
            have hgsl := K.gs_len M m (m + n) p
            have hal : Below wr.heap.size wr (wr.alloc (.cells #[.slice ra (K.rw M m p (m + n)).length rc, .slice ca (K.cl M m p (m + n)).length cc] 85)) := (Below.refl _ _).alloc (Nat.le_refl _) _
            have HI8 := hid (hin.grown hal)
            have HE1 := hid e1
            have HE2 := hid (World.ownsRow.kept e2 (grown_below hal) (Classical.em _))
            have HE3 := hid (show ∀ k (h : k < (K.gs M m (m + n) p).length) (h' : k < vs.length), RowI _ (gb + 1) vs[k].1 _ ∧ RowI _ (gb + 1) vs[k].2 _ ∧ Lower gv vs[k].1 ∧ Lower gv vs[k].2 from fun k h h' => by
              obtain ⟨q1, q2, q3, q4⟩ := e3 k h h'
              exact ⟨q1.kept (grown_below hal) (Classical.em _), q2.kept (grown_below hal) (Classical.em _), q3, q4⟩)
            have HMK := hid (K.mk_end M (m + n) p)
            have HLO := hid hin.o2
            clear hin e1 e2 e3 hal
            go_wp2_with (at_builtin; refine wpList_append_own _ rfl _ _ 34 rfl (gb + 1) 85 i1 (.agg #[.slice none 0 0, .slice none 0 0]) 2 48 Try.underlying34 ji jz0 jz1 jz2 rfl (by decide) _ _ _ rfl HE2.out ⟨wr.heap.size, 0, none⟩ 1 1 [.slice ra (K.rw M m p (m + n)).length rc, .slice ca (K.cl M m p (m + n)).length cc] rfl rfl ?c1 ?c2 ?c3 ?c4 ?c5 ?_)
            case c1 =>
              intro k u hk
              match k, hk with
              | 0, hk =>
                simp at hk; subst hk
                rw [Addr.add_lit, World.cell?_alloc_at _ _ _ _ rfl]
                rfl
              | 1, hk =>
                simp at hk; subst hk
                rw [Addr.add_lit, World.cell?_alloc_at _ _ _ _ rfl]
                rfl
            case c2 => intro u hu; simp at hu; rcases hu with rfl | rfl <;> rfl
            case c3 => unfold maxLen; omega
            case c4 => omega
            case c5 => have := HLO.out; simp; omega
            intro v' w8 hown hgrow _
            have HO8 : Hid (K.Outer w g gb m n sl M (m + n) (p + 1) v' w8) := hid (by
              unfold K.Outer
              rw [HN.out, ← HMK.out]
              exact HI8.out.finish HE1.out HE2.out HE3.out hown hgrow)
            clear hown hgrow HI8 HE1 HE2 HE3 v0 v1
            go_wp2
            go_roundw
            case rel => exact ⟨p + 1, by omega, by go_num, HO8.out⟩
            case measure => simp [intOf]; omega
    · have hpe : p = m + n := by omega
      subst hpe
      go_wp2
      go_ret
      exact ⟨_, _, _, rfl, HGS.out, HBL.out⟩
end Go.Proofs.Ytmbfpekcfeeifaa
