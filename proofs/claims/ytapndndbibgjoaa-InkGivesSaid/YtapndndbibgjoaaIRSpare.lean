/- Package ink: the walk of the reference's Spare. -/
import Derived.Test.YtapndndbibgjoaaISpare
import Derived.Deep.RegionLaw
namespace Go.Proofs.Ytapndndbibgjoaa
open Go.RowKit

theorem step_append_own {P : Program} {w : World} {ops : Array Oper} {o : Oper} {a : Act} {K : Act → World → Prop} {Q : Exit → Act → World → Prop} {E : Prop} (hgd : o.guard = none) (s x : Operand) (t : TypeId)
    (ho : o.op = .call { callee := .builtin .append, args := #[s, x], argTypes := #[t, t] })
    (base : Nat) (e : TypeId) (i : TypeInfo) (z : Value) (size bytes : Nat) (ht : P.underlying t = some (.slice e)) (hi : P.info? e = some i) (hz : i.zero = some z)
    (hsize : i.size = size) (hby : i.bytes = bytes) (hzs : z.cells.size = size) (hsz : 0 < size)
    (v : Value) (n : Nat) (xs : List Value) (hs : a.eval s = v) (hown : w.ownsRow base e size v n xs)
    (ad : Addr) (m c : Nat) (news : List Value) (hx : a.eval x = .slice (some ad) m c) (hl : news.length = m * size) (hnews : ∀ j u, news[j]? = some u → w.cell? (ad.add j) = some u) (h1 : ∀ u ∈ news, u.oneCell' = true)
    (h63 : n + m ≤ maxLen) (hbytes : (n + m) * bytes ≤ 140737488355328) (hbase : base ≤ w.heap.size)
    (h : ∀ v' w', w'.ownsRow base e size v' (n + m) (xs ++ news) → w.grownBy w' v.ownBlock → K (a.put o.dst v') w') :
    if Region.wanted o (yielded ops a.tmps) = true then Oper.wp P o a w K Q else E := by
  have hw : Region.wanted o (yielded ops a.tmps) = true := by simp [Region.wanted, hgd]
  rw [if_pos hw]
  exact wp_append_own w s x t ho base e i z size bytes ht hi hz hsize hby hzs hsz v n xs hs hown ad m c news hx hl hnews h1 h63 hbytes hbase fun v' w' h2 h3 _ => h v' w' h2 h3

theorem own_mt1 (wr : World) (t : TypeId) : Hid (Below wr.heap.size wr (wr.alloc (.cells #[] t)).drew) ∧ Hid ((wr.alloc (.cells #[] t)).drew.ownsRow wr.heap.size t 1 (.slice (some ⟨wr.heap.size, 0, none⟩) 0 0) 0 []) :=
  ⟨hid ((Below.refl _ _).alloc (Nat.le_refl _) _).drew, hid (World.ownsRow.drew (World.ownsRow_made wr #[] 0 (Nat.le_refl _) (Nat.zero_le _) rfl))⟩
theorem own_mt2 {wr X : World} (h : Hid (Below wr.heap.size wr X)) (t : TypeId) : Hid (Below wr.heap.size wr (X.alloc (.cells #[] t))) ∧ Hid ((X.alloc (.cells #[] t)).ownsRow wr.heap.size t 1 (.slice (some ⟨X.heap.size, 0, none⟩) 0 0) 0 []) :=
  ⟨hid (h.out.alloc h.out.size _), hid (World.ownsRow_made X #[] 0 h.out.size (Nat.zero_le _) rfl)⟩
theorem own_hid {wr W W2 : World} {t : TypeId} {v : Value} {n : Nat} {xs : List Value} (h : Hid (W.ownsRow wr.heap.size t 1 v n xs)) (hb : Hid (Below wr.heap.size wr W)) (hg : W.grownBy W2 v.ownBlock) : Hid (Below wr.heap.size wr W2) :=
  hid (hb.out.grown hg hb.out.size (fun q hq => (World.ownsRow.lt h.out q hq).1))

theorem own_less {w : World} {base : Nat} {t : TypeId} {v : Value} {n : Nat} {xs ys : List Int} (h : w.ownsRow base t 1 v n ([] ++ xs.map (Value.int .i64) ++ ys.map (Value.int .i64))) : ∃ a cap, v = .slice a n cap ∧ Hid (RdI w a (xs ++ ys)) := by
  rw [List.nil_append, ← List.map_append] at h
  obtain ⟨a, cap, h1, _, _, h2⟩ := RdI.of_own h
  exact ⟨a, cap, h1, hid h2⟩

theorem K.rowsOf_less (T : List (List Int)) (l : List Int) (k : Nat) : K.rowsOf T (l.take k ++ l.drop (k + 1)) = K.less (K.rowsOf T l) k := by
  unfold K.rowsOf K.less
  rw [List.map_append, List.map_take, List.map_drop]

set_option maxHeartbeats 8000000 in
set_option maxRecDepth 100000 in
theorem refSpare_any (n : Int) (a al : Option Addr) (c cl : Nat) (T : List (List Int)) (l : List Int) (w : World) (hm : T.length ≤ maxLen) (hml : l.length ≤ maxLen) (hlc : l.length ≤ cl) (hT : RdM w a T) (hl : RdI w al l) :
    Calls Try.prog 22 #[K.pal n a T.length c, .slice al l.length cl] w fun e w' => ∃ r cr xs, e = .returned (.tuple #[.slice r xs.length cr, .int .i64 (K.sq n T l 12)]) ∧ (K.sq n T l 12 ≠ 0 → xs = []) ∧ (K.sq n T l 12 = 0 → xs = K.spare (K.rowsOf T l) l.length) ∧ RdI w' r xs ∧ Below w.heap.size w w' := by
  have hb0 : Below w.heap.size w (w.alloc (.cells #[.int .i64 n, .slice a T.length c] 29)) := (Below.refl _ _).alloc (Nat.le_refl _) _
  have k0 : (w.alloc (.cells #[.int .i64 n, .slice a T.length c] 29)).cell? ⟨w.heap.size, 0, none⟩ = some (.int .i64 n) := by rw [World.cell?_alloc_at _ _ _ _ rfl]; rfl
  have k1 : (w.alloc (.cells #[.int .i64 n, .slice a T.length c] 29)).cell? ⟨w.heap.size, 1, none⟩ = some (.slice a T.length c) := by rw [World.cell?_alloc_at _ _ _ _ rfl]; rfl
  have HB0 := hid hb0
  have HK0 := hid k0
  have HK1 := hid k1
  have HC := hid (sequenced_any n a al c cl T l 12 _ hm hml (hT.stays hb0) (hl.stays hb0))
  have HT := hid (hT.stays hb0)
  have HL := hid (hl.stays hb0)
  clear hb0 hT hl
  unfold maxLen at hml
  unfold K.pal at HC ⊢
  by_cases h0 : K.sq n T l 12 = 0
  · obtain ⟨hg0, h12, hin⟩ := K.sq_good h0
    have hg := K.good_of hg0
    rw [h0] at HC
    have h7 : n.toNat ≤ 7 := by have := hg.hi; omega
    have hn1 : 1 ≤ n.toNat := by have := hg.lo; omega
    have HGI := hid (fun (W : World) (r : Option Addr) (cr : Nat) (ls : List Int) (h1 : ∀ x ∈ ls, 0 ≤ x ∧ x < T.length) (h2 : ls.length ≤ 12) (h3 : RdM W a T) (h4 : RdI W r ls) => refGives0_any n a r c cr T ls W hg h1 h2 h3 h4)
    have HIN := hid hin
    obtain ⟨i0, hi, hz0, hz1, hz2⟩ := info_parts (show (Try.prog.info? 3).map (fun i => (i.zero, i.size, i.bytes)) = some (some (.int .i64 0), 1, 8) by kernel_rfl)
    have HPost : Hid (∀ (e : Ending) (w' : World), (∃ r cr, e = .returned (.tuple #[.slice r (K.spare (K.rowsOf T l) l.length).length cr, .int .i64 0]) ∧ RdI w' r (K.spare (K.rowsOf T l) l.length) ∧ Below w.heap.size w w') → ∃ r cr xs, e = .returned (.tuple #[.slice r xs.length cr, .int .i64 (K.sq n T l 12)]) ∧ (K.sq n T l 12 ≠ 0 → xs = []) ∧ (K.sq n T l 12 = 0 → xs = K.spare (K.rowsOf T l) l.length) ∧ RdI w' r xs ∧ Below w.heap.size w w') := hid (by
      rintro e w' ⟨r, cr, rfl, hr, hb⟩
      exact ⟨r, cr, _, by rw [h0], fun h => absurd h0 h, fun _ => rfl, hr, hb⟩)
    refine Calls.mono ?_ HPost.out
    unfold K.pal at HGI
    clear hg hin hg0 h0 HPost
    go_enter Try.func22, Try.ntmps22
    go_wp2_with fail
    generalize w.alloc (.cells #[.int .i64 n, .slice a T.length c] 29) = w1 at *
    refine HC.out.mono ?_
    rintro e w2 ⟨rfl, hb⟩
    have HB2 := hid (HB0.out.trans (hb.mono HB0.out.size))
    have HQ0 := hid (cell_stays hb (Nat.le_refl _) HK0.out)
    have HQ1 := hid (cell_stays hb (Nat.le_refl _) HK1.out)
    have HT2 := hid (HT.out.stays hb)
    have HL2 := hid (HL.out.stays hb)
    clear hb HC HT HL k0 k1
    go_wp2
    go_loopw [7, 8] (fun v i wr => ∃ k : Nat, k ≤ l.length ∧ i = .int .i64 k ∧ wr.ownsRow w2.heap.size 3 1 v (K.spare (K.rowsOf T l) k).length ((K.spare (K.rowsOf T l) k).map (Value.int .i64)) ∧ Below w2.heap.size w2 wr) (fun _ i _ => l.length - (intOf i).toNat)
    case atStart => exact ⟨0, Nat.zero_le _, rfl, World.ownsRow_nil _ _ _ _, Below.refl _ _⟩
    case round =>
      obtain ⟨k, hk, rfl, hown, hb⟩ := hrel
      have HO := hid hown
      have HB := hid hb
      by_cases hlt : k < l.length
      · obtain ⟨b, off, rfl, -⟩ := (HL2.out.stays HB.out) k hlt
        have HLR := hid (HL2.out.stays HB.out)
        have HTR := hid (HT2.out.stays HB.out)
        have hd : Hid (Below wr.heap.size wr wr.drew) := hid (Below.refl _ _).drew
        have hlk : (l.take k).length = k := by rw [List.length_take]; omega
        have hld : (l.drop (k + 1)).length = l.length - (k + 1) := List.length_drop
        have hls : (l.take k ++ l.drop (k + 1)).length = 0 + k + (l.length - (k + 1)) := by rw [List.length_append, hlk, hld, Nat.zero_add]
        have q0 := cell_stays hb (Nat.le_refl _) HQ0.out
        have q1 := cell_stays hb (Nat.le_refl _) HQ1.out
        have HCL := hid (fun W (h : Below wr.heap.size wr W) => show W.cell? ⟨w.heap.size, 0, none⟩ = some (.int .i64 n) ∧ W.cell? ⟨w.heap.size, 1, none⟩ = some (.slice a T.length c) from
          ⟨cell_stays h (Nat.le_refl _) q0, cell_stays h (Nat.le_refl _) q1⟩)
        have HGA := hid (fun W (h : Hid (Below wr.heap.size wr W)) => (HGI.out W (some ⟨b, off, none⟩) cl l HIN.out h12 (HTR.out.stays h.out) (HLR.out.stays h.out)).mono (R' := fun e w' => e = .returned (.int .i64 (K.seq (K.rowsOf T l) 1 : Nat)) ∧ Hid (Below W.heap.size W w') ∧ Hid (Below wr.heap.size wr w')) (fun e w' hq => ⟨hq.1, hid hq.2, hid (h.out.trans (hq.2.mono h.out.size))⟩))
        have HGL := hid (fun W (r : Option Addr) (cr ln : Nat) (hln : ln + 1 = l.length) (h : Hid (Below wr.heap.size wr W)) (hr : Hid (RdI W r (l.take k ++ l.drop (k + 1)))) => (show Calls _ _ #[_, .slice r ln cr] W _ from (show ln = (l.take k ++ l.drop (k + 1)).length by rw [hls]; omega) ▸ HGI.out W r cr (l.take k ++ l.drop (k + 1)) (fun x hx => by
            rcases List.mem_append.1 hx with h1 | h1
            · exact HIN.out x (List.mem_of_mem_take h1)
            · exact HIN.out x (List.mem_of_mem_drop h1)) (by rw [hls]; omega) (HTR.out.stays h.out) hr.out).mono (R' := fun e w' => e = .returned (.int .i64 (K.seq (K.less (K.rowsOf T l) k) 1 : Nat)) ∧ Hid (Below W.heap.size W w') ∧ Hid (Below wr.heap.size wr w')) (fun e w' hq => ⟨by rw [hq.1, K.rowsOf_less], hid hq.2, hid (h.out.trans (hq.2.mono h.out.size))⟩))
        have HN1 := hid (fun W (h : Hid (Below wr.heap.size wr W)) => show ∀ j u, ((l.take k).map (Value.int .i64))[j]? = some u → W.cell? ((⟨b, off, none⟩ : Addr).add j) = some u from fun j u hj => by
          obtain ⟨hl1, rfl⟩ := List.getElem?_eq_some_iff.1 hj
          rw [List.length_map, hlk] at hl1
          obtain ⟨b', o', he, hc⟩ := (HLR.out.stays h.out) j (by omega)
          simp only [Option.some.injEq, Addr.mk.injEq, and_true] at he
          obtain ⟨rfl, rfl⟩ := he
          rw [Go.WideShapes.add_plain, hc, List.getElem_map, List.getElem_take])
        have HN2 := hid (fun W (o2 l2 : Nat) (hl2 : l2 = l.length - (k + 1)) (ho2 : o2 = off + (k + 1) ∨ l2 = 0) (h : Hid (Below wr.heap.size wr W)) => show ∀ j u, ((l.drop (k + 1)).map (Value.int .i64))[j]? = some u → W.cell? ((⟨b, o2, none⟩ : Addr).add j) = some u from fun j u hj => by
          obtain ⟨hl1, rfl⟩ := List.getElem?_eq_some_iff.1 hj
          rw [List.length_map, hld] at hl1
          rcases ho2 with rfl | h0
          · obtain ⟨b', o', he, hc⟩ := (HLR.out.stays h.out) (k + 1 + j) (by omega)
            simp only [Option.some.injEq, Addr.mk.injEq, and_true] at he
            obtain ⟨rfl, rfl⟩ := he
            rw [Go.WideShapes.add_plain, List.getElem_map, List.getElem_drop, ← hc, Nat.add_assoc]
          · omega)
        have hix : (0 : Int) ≤ (k : Int) ∧ (k : Int) < (l.length : Int) := by omega
        have hix1 : (0 : Int) ≤ (k : Int) + 1 ∧ (k : Int) + 1 ≤ (l.length : Int) := by omega
        have hlcI : (l.length : Int) ≤ (cl : Int) := by omega
        have hkc : (k : Int) ≤ (cl : Int) := by omega
        have hrc0 : ¬ cl = 0 := by omega
        have htn : ((k : Int) + 1).toNat = k + 1 := by omega
        have hwk : IntKind.i64.wrap ((k : Int) + 1) = (k : Int) + 1 := by rw [IntKind.wrap_i64]; omega
        have HN := hid (show (K.seq (K.less (K.rowsOf T l) k) 1 = K.seq (K.rowsOf T l) 1 → K.spare (K.rowsOf T l) (k + 1) = K.spare (K.rowsOf T l) k ++ [(k : Int)]) ∧ (¬ K.seq (K.less (K.rowsOf T l) k) 1 = K.seq (K.rowsOf T l) 1 → K.spare (K.rowsOf T l) (k + 1) = K.spare (K.rowsOf T l) k) from ⟨K.spare_yes, K.spare_no⟩)
        have hcap : (K.spare (K.rowsOf T l) k).length ≤ 12 := Nat.le_trans (K.spare_len _ k) (by omega)
        generalize K.seq (K.less (K.rowsOf T l) k) 1 = s1 at *
        generalize K.seq (K.rowsOf T l) 1 = s2 at *
        obtain ⟨e0, ho0⟩ := own_mt1 wr 3
        have m1 : 0 + k ≤ maxLen := by unfold maxLen; omega
        have m2 : (0 + k) * 8 ≤ 140737488355328 := by omega
        have one1 : ∀ u ∈ (l.take k).map (Value.int .i64), u.oneCell' = true := fun u hu => by obtain ⟨r, _, rfl⟩ := List.mem_map.1 hu; rfl
        have one2 : ∀ u ∈ (l.drop (k + 1)).map (Value.int .i64), u.oneCell' = true := fun u hu => by obtain ⟨r, _, rfl⟩ := List.mem_map.1 hu; rfl
        have n1 : ((l.take k).map (Value.int .i64)).length = k * 1 := by rw [List.length_map, hlk, Nat.mul_one]
        have HM : Hid (∀ l2, l2 = l.length - (k + 1) → 0 + k + l2 ≤ maxLen ∧ (0 + k + l2) * 8 ≤ 140737488355328 ∧ ((l.drop (k + 1)).map (Value.int .i64)).length = l2 * 1) := hid (fun l2 hl2 => ⟨by unfold maxLen; omega, by omega, by rw [List.length_map, hld, hl2, Nat.mul_one]⟩)
        clear hown hb hls hlk hld HQ0 HQ1 HK0 HK1 HGI
        have HM1 := hid m1
        have HM2 := hid m2
        have HO1 := hid one1
        have HO2 := hid one2
        have HL1 := hid n1
        clear m1 m2 one1 one2 n1
        by_cases hrck : cl = k + 1
        · have hl0 : 0 = l.length - (k + 1) := by omega
          subst hrck
          have hk1 : (k : Int) ≤ (k : Int) + 1 := by omega
          have HL0 := hid hl0
          clear hl0
          obtain ⟨q0, q1⟩ := HCL.out _ hd.out
          go_wp2
          go_region_held3 (fun W => W.cell? ⟨w.heap.size, 0, none⟩ = some (.int .i64 n) ∧ W.cell? ⟨w.heap.size, 1, none⟩ = some (.slice a T.length c)) (first | exact HCL.out _ (Hid.out (by assumption)) | exact HCL.out _ (Hid.out (own_mt2 (by assumption) _).1) | go_keep) (first | (go_at_call 61; (with_reducible refine (HGA.out _ (by assumption)).mono ?_); rintro e wL ⟨rfl, hbs, hbL⟩) | (go_at_call 61; (with_reducible refine (HGL.out _ r2 c2 _ (by omega) (by assumption) (by first | exact hr2 | exact hid (hr2.out.stays hbs.out))).mono ?_); rintro e wL ⟨rfl, -, hbL⟩) | (refine step_append_own rfl (.tmp 22) (.tmp 25) 25 rfl wr.heap.size 3 i0 (.int .i64 0) 1 8 Try.underlying25 hi hz0 hz1 hz2 rfl (by decide) _ _ _ rfl ho0.out ⟨b, off, none⟩ k _ _ rfl HL1.out (HN1.out _ e0) HO1.out HM1.out HM2.out e0.out.size ?_; intro v1 wa hw1 hg1; have hb1 := own_hid ho0 e0 hg1; have ho1 := hid hw1; clear hw1 hg1) | (refine step_append_own rfl (.tmp 26) (.tmp 30) 25 rfl wr.heap.size 3 i0 (.int .i64 0) 1 8 Try.underlying25 hi hz0 hz1 hz2 rfl (by decide) _ _ _ rfl ho1.out ⟨b, off, none⟩ (0) _ _ rfl (HM.out _ HL0.out).2.2 (HN2.out _ (off) (0) HL0.out (Or.inr rfl) hb1) HO2.out (HM.out _ HL0.out).1 (HM.out _ HL0.out).2.1 hb1.out.size ?_; intro v2 wb hw2 hg2; have hb2 := own_hid ho1 hb1 hg2; obtain ⟨r2, c2, rfl, hr2⟩ := own_less hw2; clear hw2 hg2))
          all_goals
            have HB6 := hid (HB.out.trans (hbL.out.mono HB.out.size))
            have HO6 := hid (ownsRow_stays HO.out hbL.out)
            clear hbL hbs hr2 hb1 hb2 ho1 HGA HGL HCL HN1 HN2 HM HO HB hd e0 ho0
            by_cases hq : s1 = s2
            · have HN1 := hid (HN.out.1 hq)
              subst hq
              clear HN
              go_wp2_with (at_builtin; refine wpList_append_own _ rfl _ _ 25 rfl w2.heap.size 3 i0 (.int .i64 0) 1 8 Try.underlying25 hi hz0 hz1 hz2 rfl (by decide) _ _ _ rfl (HO6.out.alloc _) ⟨wL.heap.size, 0, none⟩ 1 1 [.int .i64 (k : Int)] rfl rfl ?c1 ?c2 ?c3 ?c4 ?c5 ?_)
              case c1 =>
                intro j u hj
                match j, hj with
                | 0, hj => simp at hj; subst hj; simp [Addr.add]
              case c2 => intro u hu; simp at hu; subst hu; rfl
              case c3 => unfold maxLen; omega
              case c4 => omega
              case c5 => have := HB6.out.size; simp; omega
              intro v' w7 hown' hgrow _
              have HB7 := hid ((HB6.out.alloc HB6.out.size _).grown hgrow (by have := HB6.out.size; simp; omega) (fun q hq => (World.ownsRow.lt HO6.out q hq).1))
              have HO7 := hid hown'
              clear hown' hgrow
              go_wp2
              go_roundw
              case rel => exact ⟨k + 1, by omega, by go_num, by rw [HN1.out]; simpa using HO7.out, HB7.out⟩
              case measure => simp [intOf]; omega
            · have HN1 := hid (HN.out.2 hq)
              clear HN
              go_wp2
              go_roundw
              case rel => exact ⟨k + 1, by omega, by go_num, by rw [HN1.out]; exact HO6.out, HB6.out⟩
              case measure => simp [intOf]; omega
        · have hl0 : l.length - (k + 1) = l.length - (k + 1) := rfl
          obtain ⟨q0, q1⟩ := HCL.out _ hd.out
          go_wp2
          go_region_held3 (fun W => W.cell? ⟨w.heap.size, 0, none⟩ = some (.int .i64 n) ∧ W.cell? ⟨w.heap.size, 1, none⟩ = some (.slice a T.length c)) (first | exact HCL.out _ (Hid.out (by assumption)) | exact HCL.out _ (Hid.out (own_mt2 (by assumption) _).1) | go_keep) (first | (go_at_call 61; (with_reducible refine (HGA.out _ (by assumption)).mono ?_); rintro e wL ⟨rfl, hbs, hbL⟩) | (go_at_call 61; (with_reducible refine (HGL.out _ r2 c2 _ (by omega) (by assumption) (by first | exact hr2 | exact hid (hr2.out.stays hbs.out))).mono ?_); rintro e wL ⟨rfl, -, hbL⟩) | (refine step_append_own rfl (.tmp 22) (.tmp 25) 25 rfl wr.heap.size 3 i0 (.int .i64 0) 1 8 Try.underlying25 hi hz0 hz1 hz2 rfl (by decide) _ _ _ rfl ho0.out ⟨b, off, none⟩ k _ _ rfl HL1.out (HN1.out _ e0) HO1.out HM1.out HM2.out e0.out.size ?_; intro v1 wa hw1 hg1; have hb1 := own_hid ho0 e0 hg1; have ho1 := hid hw1; clear hw1 hg1) | (refine step_append_own rfl (.tmp 26) (.tmp 30) 25 rfl wr.heap.size 3 i0 (.int .i64 0) 1 8 Try.underlying25 hi hz0 hz1 hz2 rfl (by decide) _ _ _ rfl ho1.out ⟨b, off + (k + 1), none⟩ (l.length - (k + 1)) _ _ rfl (HM.out _ rfl).2.2 (HN2.out _ (off + (k + 1)) (l.length - (k + 1)) rfl (Or.inl rfl) hb1) HO2.out (HM.out _ rfl).1 (HM.out _ rfl).2.1 hb1.out.size ?_; intro v2 wb hw2 hg2; have hb2 := own_hid ho1 hb1 hg2; obtain ⟨r2, c2, rfl, hr2⟩ := own_less hw2; clear hw2 hg2))
          all_goals
            have HB6 := hid (HB.out.trans (hbL.out.mono HB.out.size))
            have HO6 := hid (ownsRow_stays HO.out hbL.out)
            clear hbL hbs hr2 hb1 hb2 ho1 HGA HGL HCL HN1 HN2 HM HO HB hd e0 ho0
            by_cases hq : s1 = s2
            · have HN1 := hid (HN.out.1 hq)
              subst hq
              clear HN
              go_wp2_with (at_builtin; refine wpList_append_own _ rfl _ _ 25 rfl w2.heap.size 3 i0 (.int .i64 0) 1 8 Try.underlying25 hi hz0 hz1 hz2 rfl (by decide) _ _ _ rfl (HO6.out.alloc _) ⟨wL.heap.size, 0, none⟩ 1 1 [.int .i64 (k : Int)] rfl rfl ?c1 ?c2 ?c3 ?c4 ?c5 ?_)
              case c1 =>
                intro j u hj
                match j, hj with
                | 0, hj => simp at hj; subst hj; simp [Addr.add]
              case c2 => intro u hu; simp at hu; subst hu; rfl
              case c3 => unfold maxLen; omega
              case c4 => omega
              case c5 => have := HB6.out.size; simp; omega
              intro v' w7 hown' hgrow _
              have HB7 := hid ((HB6.out.alloc HB6.out.size _).grown hgrow (by have := HB6.out.size; simp; omega) (fun q hq => (World.ownsRow.lt HO6.out q hq).1))
              have HO7 := hid hown'
              clear hown' hgrow
              go_wp2
              go_roundw
              case rel => exact ⟨k + 1, by omega, by go_num, by rw [HN1.out]; simpa using HO7.out, HB7.out⟩
              case measure => simp [intOf]; omega
            · have HN1 := hid (HN.out.2 hq)
              clear HN
              go_wp2
              go_roundw
              case rel => exact ⟨k + 1, by omega, by go_num, by rw [HN1.out]; exact HO6.out, HB6.out⟩
              case measure => simp [intOf]; omega
      · have hke : k = l.length := by omega
        subst hke
        have HBZ := hid (HB2.out.trans (HB.out.mono HB2.out.size))
        obtain ⟨r, cr, rfl, hcr, hlen, hr⟩ := RdI.of_own HO.out
        have HR := hid hr
        clear hr HO HB hown hb
        go_wp2
        go_ret2
        first | exact ⟨r, cr, rfl, HR.out, HBZ.out⟩ | exact ⟨r, ⟨cr, rfl⟩, HR.out, HBZ.out⟩
  · have h0b : (K.sq n T l 12 == 0) = false := by simpa using h0
    have HN := hid h0
    generalize K.sq n T l 12 = q at *
    clear h0
    go_enter Try.func22, Try.ntmps22
    go_wp2_with fail
    generalize w.alloc (.cells #[.int .i64 n, .slice a T.length c] 29) = w1 at *
    refine HC.out.mono ?_
    rintro e w2 ⟨rfl, hb⟩
    have HB2 := hid (HB0.out.trans (hb.mono HB0.out.size))
    clear hb HC k0 k1
    go_wp2
    go_ret2
    exact ⟨none, 0, [], rfl, fun _ => rfl, fun h => absurd h HN.out, RdI.nil _ _, HB2.out⟩
end Go.Proofs.Ytapndndbibgjoaa
