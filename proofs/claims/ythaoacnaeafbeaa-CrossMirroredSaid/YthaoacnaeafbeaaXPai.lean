/- Package tuscheref11: the walk of paired. -/
import Derived.Test.YthaoacnaeafbeaaXPQ
import Derived.Test.YthaoacnaeafbeaaXPrs
namespace Go.Proofs.Ythaoacnaeafbeaa
open Go.RowKit

theorem X.i2 : ∃ i, Try.prog.info? 24 = some i ∧ i.zero = some (.agg #[.int .i64 0, .int .i64 0]) ∧ i.size = 2 ∧ i.bytes = 16 :=
  info_parts (show (Try.prog.info? 24).map (fun i => (i.zero, i.size, i.bytes)) = some (some (.agg #[.int .i64 0, .int .i64 0]), 2, 16) by kernel_rfl)
theorem X.i1 : ∃ i, Try.prog.info? 3 = some i ∧ i.zero = some (.int .i64 0) ∧ i.size = 1 ∧ i.bytes = 8 :=
  info_parts (show (Try.prog.info? 3).map (fun i => (i.zero, i.size, i.bytes)) = some (some (.int .i64 0), 1, 8) by kernel_rfl)
abbrev X.QQ (base : Nat) (D : Nat × Nat → Nat) (W : World) (v u : Value) (ps : List (Nat × Nat)) : Prop := X.Q2 base 24 3 2 1 W v ps.length (X.pc ps) u ps.length (X.dc D ps)
theorem X.tne : 24 ≠ 3 := by decide
theorem X.QQ.snoc {base : Nat} {D : Nat × Nat → Nat} {W : World} {v u : Value} {ps : List (Nat × Nat)} {i k : Nat} {d : Int} (hd : d = (D (i, k) : Int))
    (h : X.Q2 base 24 3 2 1 W v (ps.length + 1) (X.pc ps ++ [.int .i64 (i : Int), .int .i64 (k : Int)]) u (ps.length + 1) (X.dc D ps ++ [.int .i64 d])) : X.QQ base D W v u (ps ++ [(i, k)]) := by
  unfold X.QQ
  rw [List.length_append, X.pc_snoc, X.dc_snoc, ← hd]
  exact h

set_option maxHeartbeats 8000000 in
set_option maxRecDepth 100000 in
theorem paired_any (a : Option Addr) (c : Nat) (l : List Int) (w : World) (hl : RdI w a l) (hok : X.Ok l) :
    Calls Try.prog 47 #[.slice a l.length c] w fun e w' => ∃ x cx y cy, e = .returned (.tuple #[.slice x (X.prs l).length cx, .slice y (X.ds (X.dis l) (X.prs l)).length cy]) ∧ X.RdQ w' x (X.prs l) ∧ RdI w' y (X.ds (X.dis l) (X.prs l)) ∧ Below w.heap.size w w' := by
  have h2 := hok.two
  have h8 := hok.eight
  obtain ⟨b, o, rfl, _⟩ := X.num hl (show 0 < l.length by omega)
  have HL := hid hl
  have HOK := hid hok
  obtain ⟨iP, hiP, hzP, hsP, hbP⟩ := X.i2
  obtain ⟨iQ, hiQ, hzQ, hsQ, hbQ⟩ := X.i1
  have HFF : Hid (X.fr X.up l.length l.length = X.prs l) := hid (X.fr_from X.up l.length)
  clear hl hok
  generalize X.prs l = R at *
  generalize hD : X.dis l = D at *
  have HDD : Hid (∀ i k, i < k → k < l.length → l.getD k 0 - l.getD i 0 = (D (i, k) : Int)) := hid (fun i k h1 h2 => by
    rw [← hD]; unfold X.dis; have := HOK.out.rng h1 h2; dsimp only; omega)
  clear hD
  go_enter Try.func47, Try.ntmps47
  go_wp2_with fail
  go_loopw [4, 5, 6] (fun v u s wr => ∃ i : Nat, i ≤ l.length ∧ s = .int .i64 i ∧ X.QQ w.heap.size D wr v u (X.fr X.up l.length i) ∧ Below w.heap.size w wr) (fun _ _ s _ => l.length - (intOf s).toNat)
  case atStart => exact ⟨0, Nat.zero_le _, rfl, ⟨World.ownsRow_nil _ _ _ _, World.ownsRow_nil _ _ _ _⟩, Below.refl _ _⟩
  case round => as_aux_lemma =>
    obtain ⟨i, hi, rfl, hq, hb⟩ := hrel
    have HQ0 := hid hq
    have HB0 := hid hb
    clear hq hb
    by_cases hlt : i < l.length
    · go_wp2_with fail
      go_loopw [4, 5, 7] (fun v u s wr => ∃ k : Nat, i + 1 ≤ k ∧ k ≤ l.length ∧ s = .int .i64 k ∧ X.QQ w.heap.size D wr v u (X.fr X.up l.length i ++ X.sg X.up i k) ∧ Below w.heap.size w wr) (fun _ _ s _ => l.length - (intOf s).toNat)
      case atStart => exact ⟨i + 1, Nat.le_refl _, by omega, by go_num, by rw [X.sg_low, List.append_nil]; exact HQ0.out, HB0.out⟩
      case round => as_aux_lemma =>
        obtain ⟨k, hk1, hk, rfl, hq, hb⟩ := hrel
        have HQ1 := hid hq
        have HB1 := hid hb
        clear hq hb HQ0 HB0
        by_cases hkl : k < l.length
        · have HS := hid (X.sg_yes (ok := X.up) (i := i) (k := k) (by unfold X.up; simp; omega))
          have HLEN : Hid ((X.fr X.up l.length i ++ X.sg X.up i k).length ≤ 1000) := hid (by
            rw [List.length_append]
            have := X.fr_len X.up l.length i
            have := X.sg_len X.up i k
            have : i * l.length ≤ 8 * 8 := Nat.mul_le_mul (by omega) (by omega)
            omega)
          have HCE : Hid (∀ W, Below w.heap.size w W → ∀ j, j < l.length → W.cell? ⟨b, o + j, none⟩ = some (.int .i64 (l.getD j 0))) := hid (fun W hb j hj => by
            obtain ⟨b', o', he, hc⟩ := X.num HL.out hj
            simp only [Option.some.injEq, Addr.mk.injEq, and_true] at he
            obtain ⟨rfl, rfl⟩ := he
            exact cell_stays hb (Nat.le_refl _) hc)
          have HYI := hid (fun W (h : Below w.heap.size w W) => HCE.out W h i hlt)
          have HYK := hid (fun W (h : Below w.heap.size w W) => HCE.out W h k hkl)
          have hii : (0 : Int) ≤ (i : Int) ∧ (i : Int) < (l.length : Int) := by omega
          have hkk : (0 : Int) ≤ (k : Int) ∧ (k : Int) < (l.length : Int) := by omega
          have hrg := HOK.out.rng (show i < k by omega) hkl
          have HDV : Hid (l.getD k 0 - l.getD i 0 = (D (i, k) : Int)) := hid (HDD.out i k (by omega) hkl)
          have hwr : IntKind.i64.wrap (l.getD k 0 - l.getD i 0) = l.getD k 0 - l.getD i 0 := IntWalk.i64_in _ (by omega)
          generalize l.getD k 0 = y at *
          generalize l.getD i 0 = x at *
          have HKC : Hid (X.C2 ⟨b, o + i, none⟩ ⟨b, o + k, none⟩ (.int .i64 x) (.int .i64 y) wr) := hid ⟨HYI.out wr HB1.out, HYK.out wr HB1.out⟩
          have hbb : b < w.heap.size := World.block_lt_of_cell? _ _ (HYI.out w (Below.refl _ _))
          have HSA : Hid (X.fr X.up l.length i ++ X.sg X.up i (k + 1) = (X.fr X.up l.length i ++ X.sg X.up i k) ++ [(i, k)]) := hid (by rw [HS.out, List.append_assoc])
          have HOP := hid (World.ownsRow.lt HQ1.out.p)
          have HOQ := hid (World.ownsRow.lt HQ1.out.q)
          generalize X.fr X.up l.length i ++ X.sg X.up i k = ps at *
          have HM1 : Hid (ps.length + 1 ≤ maxLen) := hid (by unfold maxLen; have := HLEN.out; omega)
          have HM2 : Hid ((ps.length + 1) * 16 ≤ 140737488355328) := hid (by have := HLEN.out; omega)
          have HM3 : Hid ((ps.length + 1) * 8 ≤ 140737488355328) := hid (by have := HLEN.out; omega)
          have HBS := HB1.out.size
          clear HYI HYK HCE HDD
          go_wp2_with fail
          go_region_held3 (fun W => X.C2 ⟨b, o + i, none⟩ ⟨b, o + k, none⟩ (.int .i64 x) (.int .i64 y) W) (first | with_reducible exact HKC.out.drew | with_reducible exact (HKC.out.alloc _).drew | with_reducible exact ((HKC.out.alloc _).alloc _).drew | with_reducible exact hcz.out | with_reducible exact hcp.out | with_reducible exact hcq.out | with_reducible exact hcp.out.alloc _ | with_reducible exact hcq.out.alloc _) (first | (refine X.step_append rfl _ _ 65 rfl w.heap.size 24 iP _ 2 16 Try.underlying65 hiP hzP hsP hbP rfl (by decide) _ _ _ rfl (X.Q2.p (HQ1.out.alloc _).drew) _ 1 1 [.int .i64 (i : Int), .int .i64 (k : Int)] rfl rfl ((X.Lit.two' (wr) (.int .i64 (i : Int)) (.int .i64 (k : Int)) 24 (wr.heap.size) (rfl)).drew) (X.one2 _ _) HM1.out HM2.out (by simp; omega) ?_; intro vp wp hop hgp; have hp := hid (X.Q2.push1 X.tne (HQ1.out.alloc _).drew hop hgp); have hbp := hid (Below.grown ((HB1.out.alloc HB1.out.size _).drew) hgp (by simp; omega) (fun g hg => (HOP.out g hg).1)); have hcp := hid (X.C2.kept (B := w.heap.size) ((HKC.out.alloc _).drew) hgp (fun g hg => (HOP.out g hg).1) hbb hbb)) | (refine X.step_append rfl _ _ 65 rfl w.heap.size 24 iP _ 2 16 Try.underlying65 hiP hzP hsP hbP rfl (by decide) _ _ _ rfl (X.Q2.p ((HQ1.out.alloc _).alloc _).drew) _ 1 1 [.int .i64 (i : Int), .int .i64 (k : Int)] rfl rfl (((X.Lit.two' (wr) (.int .i64 (i : Int)) (.int .i64 (k : Int)) 24 (wr.heap.size) (rfl)).alloc (.cells #[.int .i64 (y - x)] 3)).drew) (X.one2 _ _) HM1.out HM2.out (by simp; omega) ?_; intro vp wp hop hgp; have hp := hid (X.Q2.push1 X.tne ((HQ1.out.alloc _).alloc _).drew hop hgp); have hbp := hid (Below.grown (((HB1.out.alloc HB1.out.size _).alloc (by simp; omega) _).drew) hgp (by simp; omega) (fun g hg => (HOP.out g hg).1)); have hcp := hid (X.C2.kept (B := w.heap.size) (((HKC.out.alloc _).alloc _).drew) hgp (fun g hg => (HOP.out g hg).1) hbb hbb); have hlp := hid (X.Lit.kept ((X.Lit.one' (wr.alloc (.cells #[.int .i64 (i : Int), .int .i64 (k : Int)] 24)) (.int .i64 (y - x)) 3 (wr.heap.size + 1) (by simp)).drew) hgp (fun g hg => by have := (HOP.out g hg).2; simp; omega))) | (refine X.step_append rfl _ _ 65 rfl w.heap.size 24 iP _ 2 16 Try.underlying65 hiP hzP hsP hbP rfl (by decide) _ _ _ rfl (X.Q2.p ((HQ1.out.alloc _).alloc _).drew) _ 1 1 [.int .i64 (i : Int), .int .i64 (k : Int)] rfl rfl ((X.Lit.two' (wr.alloc (.cells #[.int .i64 (y - x)] 3)) (.int .i64 (i : Int)) (.int .i64 (k : Int)) 24 (wr.heap.size + 1) (by simp)).drew) (X.one2 _ _) HM1.out HM2.out (by simp; omega) ?_; intro vp wp hop hgp; have hp := hid (X.Q2.push1 X.tne ((HQ1.out.alloc _).alloc _).drew hop hgp); have hbp := hid (Below.grown (((HB1.out.alloc HB1.out.size _).alloc (by simp; omega) _).drew) hgp (by simp; omega) (fun g hg => (HOP.out g hg).1)); have hcp := hid (X.C2.kept (B := w.heap.size) (((HKC.out.alloc _).alloc _).drew) hgp (fun g hg => (HOP.out g hg).1) hbb hbb); have hlp := hid (X.Lit.kept (((X.Lit.one' (wr) (.int .i64 (y - x)) 3 (wr.heap.size) (rfl)).alloc (.cells #[.int .i64 (i : Int), .int .i64 (k : Int)] 24)).drew) hgp (fun g hg => by have := (HOP.out g hg).2; simp; omega))) | (refine X.step_append rfl _ _ 22 rfl w.heap.size 3 iQ _ 1 8 Try.underlying22 hiQ hzQ hsQ hbQ rfl (by decide) _ _ _ rfl (X.Q2.q (HQ1.out.alloc _).drew) _ 1 1 [.int .i64 (y - x)] rfl rfl ((X.Lit.one' (wr) (.int .i64 (y - x)) 3 (wr.heap.size) (rfl)).drew) (X.one1 _) HM1.out HM3.out (by simp; omega) ?_; intro vq wq hoq hgq; have hq := hid (X.Q2.push2 X.tne (HQ1.out.alloc _).drew hoq hgq); have hbq := hid (Below.grown ((HB1.out.alloc HB1.out.size _).drew) hgq (by simp; omega) (fun g hg => (HOQ.out g hg).1)); have hcq := hid (X.C2.kept (B := w.heap.size) ((HKC.out.alloc _).drew) hgq (fun g hg => (HOQ.out g hg).1) hbb hbb)) | (refine X.step_append rfl _ _ 22 rfl w.heap.size 3 iQ _ 1 8 Try.underlying22 hiQ hzQ hsQ hbQ rfl (by decide) _ _ _ rfl (X.Q2.q ((HQ1.out.alloc _).alloc _).drew) _ 1 1 [.int .i64 (y - x)] rfl rfl (((X.Lit.one' (wr) (.int .i64 (y - x)) 3 (wr.heap.size) (rfl)).alloc (.cells #[.int .i64 (i : Int), .int .i64 (k : Int)] 24)).drew) (X.one1 _) HM1.out HM3.out (by simp; omega) ?_; intro vq wq hoq hgq; have hq := hid (X.Q2.push2 X.tne ((HQ1.out.alloc _).alloc _).drew hoq hgq); have hbq := hid (Below.grown (((HB1.out.alloc HB1.out.size _).alloc (by simp; omega) _).drew) hgq (by simp; omega) (fun g hg => (HOQ.out g hg).1)); have hcq := hid (X.C2.kept (B := w.heap.size) (((HKC.out.alloc _).alloc _).drew) hgq (fun g hg => (HOQ.out g hg).1) hbb hbb); have hlq := hid (X.Lit.kept ((X.Lit.two' (wr.alloc (.cells #[.int .i64 (y - x)] 3)) (.int .i64 (i : Int)) (.int .i64 (k : Int)) 24 (wr.heap.size + 1) (by simp)).drew) hgq (fun g hg => by have := (HOQ.out g hg).2; simp; omega))) | (refine X.step_append rfl _ _ 22 rfl w.heap.size 3 iQ _ 1 8 Try.underlying22 hiQ hzQ hsQ hbQ rfl (by decide) _ _ _ rfl (X.Q2.q ((HQ1.out.alloc _).alloc _).drew) _ 1 1 [.int .i64 (y - x)] rfl rfl ((X.Lit.one' (wr.alloc (.cells #[.int .i64 (i : Int), .int .i64 (k : Int)] 24)) (.int .i64 (y - x)) 3 (wr.heap.size + 1) (by simp)).drew) (X.one1 _) HM1.out HM3.out (by simp; omega) ?_; intro vq wq hoq hgq; have hq := hid (X.Q2.push2 X.tne ((HQ1.out.alloc _).alloc _).drew hoq hgq); have hbq := hid (Below.grown (((HB1.out.alloc HB1.out.size _).alloc (by simp; omega) _).drew) hgq (by simp; omega) (fun g hg => (HOQ.out g hg).1)); have hcq := hid (X.C2.kept (B := w.heap.size) (((HKC.out.alloc _).alloc _).drew) hgq (fun g hg => (HOQ.out g hg).1) hbb hbb); have hlq := hid (X.Lit.kept (((X.Lit.two' (wr) (.int .i64 (i : Int)) (.int .i64 (k : Int)) 24 (wr.heap.size) (rfl)).alloc (.cells #[.int .i64 (y - x)] 3)).drew) hgq (fun g hg => by have := (HOQ.out g hg).2; simp; omega))) | (refine X.step_append rfl _ _ 65 rfl w.heap.size 24 iP _ 2 16 Try.underlying65 hiP hzP hsP hbP rfl (by decide) _ _ _ rfl (X.Q2.p (hq.out.alloc _)) _ 1 1 [.int .i64 (i : Int), .int .i64 (k : Int)] rfl rfl (X.Lit.two' (wq) (.int .i64 (i : Int)) (.int .i64 (k : Int)) 24 (wq.heap.size) (rfl)) (X.one2 _ _) HM1.out HM2.out (by first | exact hbq.out.size | (have := hbq.out.size; simp; omega)) ?_; intro vp wp hop hgp; have hz := hid (X.Q2.push1 X.tne (hq.out.alloc _) hop hgp); have hbz := hid (Below.grown (hbq.out.alloc hbq.out.size _) hgp (by first | exact hbq.out.size | (have := hbq.out.size; simp; omega)) (fun g hg => (HOP.out g hg).1)); have hcz := hid (X.C2.kept (B := w.heap.size) (hcq.out.alloc _) hgp (fun g hg => (HOP.out g hg).1) hbb hbb)) | (refine X.step_append rfl _ _ 65 rfl w.heap.size 24 iP _ 2 16 Try.underlying65 hiP hzP hsP hbP rfl (by decide) _ _ _ rfl (X.Q2.p hq.out) _ 1 1 [.int .i64 (i : Int), .int .i64 (k : Int)] rfl rfl (hlq.out) (X.one2 _ _) HM1.out HM2.out (by first | exact hbq.out.size | (have := hbq.out.size; simp; omega)) ?_; intro vp wp hop hgp; have hz := hid (X.Q2.push1 X.tne hq.out hop hgp); have hbz := hid (Below.grown (hbq.out) hgp (by first | exact hbq.out.size | (have := hbq.out.size; simp; omega)) (fun g hg => (HOP.out g hg).1)); have hcz := hid (X.C2.kept (B := w.heap.size) (hcq.out) hgp (fun g hg => (HOP.out g hg).1) hbb hbb)) | (refine X.step_append rfl _ _ 22 rfl w.heap.size 3 iQ _ 1 8 Try.underlying22 hiQ hzQ hsQ hbQ rfl (by decide) _ _ _ rfl (X.Q2.q (hp.out.alloc _)) _ 1 1 [.int .i64 (y - x)] rfl rfl (X.Lit.one' (wp) (.int .i64 (y - x)) 3 (wp.heap.size) (rfl)) (X.one1 _) HM1.out HM3.out (by first | exact hbp.out.size | (have := hbp.out.size; simp; omega)) ?_; intro vq wq hoq hgq; have hz := hid (X.Q2.push2 X.tne (hp.out.alloc _) hoq hgq); have hbz := hid (Below.grown (hbp.out.alloc hbp.out.size _) hgq (by first | exact hbp.out.size | (have := hbp.out.size; simp; omega)) (fun g hg => (HOQ.out g hg).1)); have hcz := hid (X.C2.kept (B := w.heap.size) (hcp.out.alloc _) hgq (fun g hg => (HOQ.out g hg).1) hbb hbb)) | (refine X.step_append rfl _ _ 22 rfl w.heap.size 3 iQ _ 1 8 Try.underlying22 hiQ hzQ hsQ hbQ rfl (by decide) _ _ _ rfl (X.Q2.q hp.out) _ 1 1 [.int .i64 (y - x)] rfl rfl (hlp.out) (X.one1 _) HM1.out HM3.out (by first | exact hbp.out.size | (have := hbp.out.size; simp; omega)) ?_; intro vq wq hoq hgq; have hz := hid (X.Q2.push2 X.tne hp.out hoq hgq); have hbz := hid (Below.grown (hbp.out) hgq (by first | exact hbp.out.size | (have := hbp.out.size; simp; omega)) (fun g hg => (HOQ.out g hg).1)); have hcz := hid (X.C2.kept (B := w.heap.size) (hcp.out) hgq (fun g hg => (HOQ.out g hg).1) hbb hbb)))
          all_goals (
            have HZ := hid (X.QQ.snoc HDV.out hz.out)
            have HBZ := hid hbz.out
            go_wp2
            go_roundw
            case rel => exact ⟨k + 1, by omega, by omega, by go_num, by rw [HSA.out]; exact HZ.out, HBZ.out⟩
            case measure => simp [intOf]; omega)
        · have hke : k = l.length := by omega
          subst hke
          have HFS := hid (X.fr_succ X.up l.length i)
          rw [← HFS.out] at HQ1
          go_wp2
          go_roundw
          case rel => exact ⟨i + 1, by omega, by go_num, HQ1.out, HB1.out⟩
          case measure => simp [intOf]; omega
    · have hie : i = l.length := by omega
      subst hie
      rw [HFF.out] at HQ0
      obtain ⟨x, cx, hx, hrx⟩ := X.RdQ.of_row HQ0.out.p
      have hql : R.length = (X.ds D R).length := by unfold X.ds; simp
      obtain ⟨y, cy, hy, hry⟩ := X.rd_row (xs := X.ds D R) HQ0.out.q
      subst hx
      subst hy
      have HRX := hid hrx
      have HRY := hid hry
      clear hrx hry
      go_wp2
      go_ret2
      exact ⟨x, cx, y, cy, rfl, HRX.out, HRY.out, HB0.out⟩
end Go.Proofs.Ythaoacnaeafbeaa
