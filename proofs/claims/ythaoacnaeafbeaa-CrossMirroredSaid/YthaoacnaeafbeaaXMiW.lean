/- The law's walk: CrossMirrored. -/
import Derived.Test.YthaoacnaeafbeaaXWrk
import Derived.Test.YthaoacnaeafbeaaXMir
import Derived.Test.YthaoacnaeafbeaaXMd
import Derived.Test.YthaoacnaeafbeaaXPlW
namespace Go.Proofs.Ythaoacnaeafbeaa
open Go.RowKit

abbrev X.QM (base : Nat) (l : List Int) (s i : Nat) (W : World) (v u : Value) : Prop := X.Q3 base W v u i i ((X.back l i).map (Value.int .i64)) ((X.mov l s i).map (Value.int .i64))
theorem X.QM.snoc {base : Nat} {l : List Int} {s i : Nat} {W : World} {v u : Value} {x y : Int} (hy : y = l.getD (l.length - 1 - i) 0) (hx : x = l.getD i 0)
    (h : X.Q3 base W v u (i + 1) (i + 1) ((X.back l i).map (Value.int .i64) ++ [.int .i64 (60 - y)]) ((X.mov l s i).map (Value.int .i64) ++ [.int .i64 (x + (s : Int))])) : X.QM base l s (i + 1) W v u := by
  unfold X.QM
  rw [X.back_succ, X.mov_succ, List.map_append, List.map_append, ← hy, ← hx]
  exact h
theorem X.best_b (a : Option Addr) (c : Nat) (l : List Int) (b : Int) (w : World) (hm : l.length ≤ maxLen) (hl : RdI w a l) (hb : X.best l = b) :
    Calls Try.prog 35 #[.slice a l.length c] w fun e w' => e = .returned (.int .i64 b) ∧ Below w.heap.size w w' := hb ▸ best_any a c l w hm hl
theorem X.dis_b (a : Option Addr) (c : Nat) (l D : List Int) (w : World) (hok : X.Ok l) (hl : RdI w a l) (hD : X.sf l true (X.lng l) = D) :
    Calls Try.prog 18 #[.slice a l.length c] w (X.LE D 0 w) := by
  have h := distances_any a c l w (by unfold maxLen; have := hok.eight; omega) hl
  rw [if_pos (X.chk_zero.2 hok), X.chk_zero.2 hok, hD] at h
  exact h
theorem X.twi_b (a : Option Addr) (c : Nat) (l : List Int) (t : Bool) (w : World) (hok : X.Ok l) (hl : RdI w a l) (ht : X.clr l = t) :
    ∃ p1 p2 r1 r2 : Nat, Calls Try.prog 16 #[.slice a l.length c] w fun e w' => e = .returned (.tuple #[.agg #[.int .i64 (p1 : Nat), .int .i64 (p2 : Nat)], .agg #[.int .i64 (r1 : Nat), .int .i64 (r2 : Nat)], .int .i64 (if t = true then 5 else 0)]) ∧ Below w.heap.size w w' := by
  have h := twice_any a c l w (by unfold maxLen; have := hok.eight; omega) hl
  obtain ⟨⟨p1, p2⟩, ⟨r1, r2⟩, hv⟩ := X.twV_ok hok
  rw [hv, ht] at h
  exact ⟨p1, p2, r1, r2, h⟩

set_option maxHeartbeats 8000000 in
set_option maxRecDepth 100000 in
theorem crossMirrored_any (a : Option Addr) (c : Nat) (xs : List Nat) (by_ : Nat) (w : World) (hl : xs.length ≤ maxLen) (hx : ∀ x ∈ xs, x < 256) (hr : RdU w a xs) (hby : by_ < 256) :
    Calls Try.prog 14 #[.slice a xs.length c, .int .u8 by_] w fun e w' => e = .returned (.bool true) ∧ Below w.heap.size w w' := by
  have HMD := hid (made_any a c xs 9 w hl (by decide) hx hr)
  have HWK := hid (fun W => works_any W)
  obtain ⟨i0, hi, hz0, hz1, hz2⟩ := X.i1
  clear hx hr hl
  go_enter Try.func14, Try.ntmps14
  go_wp2_with fail
  refine HMD.out.mono ?_
  rintro e w1 ⟨x0, l, k0, rfl, hl, hok, h00, h45, h6, hb⟩
  have HB1 := hid hb
  have HOK := hid hok
  have HL := hid hl
  have h2 := hok.two
  obtain ⟨b, o, rfl, _⟩ := X.num hl (show 0 < l.length by omega)
  have HCE : Hid (∀ W, Below w1.heap.size w1 W → ∀ j, j < l.length → W.cell? ⟨b, o + j, none⟩ = some (.int .i64 (l.getD j 0))) := hid (fun W hb j hj => by
    obtain ⟨b', o', he, hc⟩ := X.num HL.out hj
    simp only [Option.some.injEq, Addr.mk.injEq, and_true] at he
    obtain ⟨rfl, rfl⟩ := he
    exact cell_stays hb (Nat.le_refl _) hc)
  have hbb : b < w1.heap.size := World.block_lt_of_cell? _ _ (HCE.out w1 (Below.refl _ _) 0 (by omega))
  clear hl hb HMD
  have hlo := hok.up.lo (l.length - 1) (by omega)
  have hce := HCE.out w1 (Below.refl _ _) (l.length - 1) (by omega)
  obtain ⟨n1, hn1⟩ : ∃ n1, n1 = l.length - 1 := ⟨_, rfl⟩
  obtain ⟨mv, hmv⟩ : ∃ mv : Nat, 61 - l.getD (l.length - 1) 0 = (mv : Int) := ⟨(61 - l.getD (l.length - 1) 0).toNat, by omega⟩
  have hlen1 : IntKind.i64.wrap ((l.length : Int) - 1) = (n1 : Int) := by rw [IntWalk.i64_in _ (by omega)]; omega
  have hlen2 : (l.length : Int) - 1 = (n1 : Int) := by omega
  have hmo := Nat.mod_lt by_ (show 0 < mv by omega)
  obtain ⟨s, hs⟩ : ∃ s, s = by_ % mv := ⟨_, rfl⟩
  rw [← hs] at hmo
  have hsl : l.getD (l.length - 1) 0 + (s : Int) ≤ 60 := by omega
  have HBK := hid (X.like_back hok)
  have HMV := hid (X.like_mov (s := (s : Int)) hok (by omega) hsl)
  have HSM : Hid (∀ j, j < l.length → 0 ≤ l.getD j 0 ∧ l.getD j 0 ≤ 60) := hid (fun j hj => ⟨hok.up.lo j hj, hok.up.hi j hj⟩)
  have hs256 : s < 256 := by omega
  have htm : ((by_ : Nat) : Int).tmod (mv : Int) = (s : Int) := by rw [Int.tmod_eq_emod_of_nonneg (by omega), hs]; push_cast; rfl
  have hwb : IntKind.i64.wrap ((by_ : Nat) : Int) = (by_ : Int) := IntWalk.i64_in _ (by omega)
  have hwm : IntKind.i64.wrap (61 - l.getD (l.length - 1) 0) = (mv : Int) := by rw [IntWalk.i64_in _ (by omega)]; exact hmv
  have hws : IntKind.i64.wrap (s : Int) = (s : Int) := IntWalk.i64_in _ (by omega)
  have hm0 : ¬ mv = 0 := by omega
  have hm1 : ¬ (mv : Int) = 0 := by omega
  have hm2 : ((mv : Int) == 0) = false := by simp; omega
  have hix1 : (0 : Int) ≤ (n1 : Int) ∧ (n1 : Int) < (l.length : Int) := by omega
  rw [← hn1] at hce hwm hmv
  have HN1 := hid hn1
  have hwq : IntKind.i64.wrap ((by_ : Int) % (mv : Int)) = (s : Int) := by rw [show (by_ : Int) % (mv : Int) = (s : Int) by rw [hs]; push_cast; rfl]; exact hws
  have hmq : (by_ : Int) % (mv : Int) = (s : Int) := by rw [hs]; push_cast; rfl
  generalize l.getD n1 0 = y0 at *
  clear hok h00 h45 hlo hmv hsl hmo hs hn1
  go_wp2_with fail
  go_loopw [7, 8, 39] (fun v u si wr => ∃ i : Nat, i ≤ l.length ∧ si = .int .i64 i ∧ X.QM w1.heap.size l s i wr v u ∧ Below w1.heap.size w1 wr) (fun _ _ si _ => l.length - (intOf si).toNat)
  case atStart => exact ⟨0, Nat.zero_le _, rfl, X.Q3.none _ _, Below.refl _ _⟩
  case round => as_aux_lemma =>
    obtain ⟨i, hil, rfl, hq, hb⟩ := hrel
    have HQ1 := hid hq
    have HB2 := hid hb
    clear hq hb
    by_cases hlt : i < l.length
    · obtain ⟨j, hj⟩ : ∃ j, j = l.length - 1 - i := ⟨_, rfl⟩
      have hn1 := HN1.out
      have HYI := hid (fun W (h : Below w1.heap.size w1 W) => HCE.out W h i hlt)
      have HYK := hid (fun W (h : Below w1.heap.size w1 W) => HCE.out W h j (by omega))
      have hii : (0 : Int) ≤ (i : Int) ∧ (i : Int) < (l.length : Int) := by omega
      have hkk : (0 : Int) ≤ (j : Int) ∧ (j : Int) < (l.length : Int) := by omega
      have hd : (i : Int) < (l.length : Int) := by omega
      have hjw : IntKind.i64.wrap ((n1 : Int) - (i : Int)) = (j : Int) := by rw [IntWalk.i64_in _ (by omega)]; omega
      have hjw2 : (n1 : Int) - (i : Int) = (j : Int) := by omega
      have hwj : IntKind.i64.wrap (j : Int) = (j : Int) := IntWalk.i64_in _ (by omega)
      have hwn : IntKind.i64.wrap (n1 : Int) = (n1 : Int) := IntWalk.i64_in _ (by omega)
      have hsx := HSM.out i hlt
      have hsy := HSM.out j (by omega)
      have hgy : l.getD j 0 = l.getD (l.length - 1 - i) 0 := by rw [hj]
      have HSN := hid (fun (W : World) (v u : Value) h => X.QM.snoc (base := w1.heap.size) (l := l) (s := s) (i := i) (W := W) (v := v) (u := u) hgy rfl h)
      have hw60 : IntKind.i64.wrap (60 - l.getD j 0) = 60 - l.getD j 0 := IntWalk.i64_in _ (by omega)
      have hwxs : IntKind.i64.wrap (l.getD i 0 + (s : Int)) = l.getD i 0 + (s : Int) := IntWalk.i64_in _ (by omega)
      clear hgy
      generalize l.getD j 0 = y at *
      generalize l.getD i 0 = x at *
      have HB1 := HB2
      have HKC : Hid (X.C2 ⟨b, o + i, none⟩ ⟨b, o + j, none⟩ (.int .i64 x) (.int .i64 y) wr) := hid ⟨HYI.out wr HB1.out, HYK.out wr HB1.out⟩
      have HOP := hid (World.ownsRow.lt HQ1.out.p)
      have HOQ := hid (World.ownsRow.lt HQ1.out.q)
      have HM1 : Hid (i + 1 ≤ maxLen) := hid (by unfold maxLen; omega)
      have HM2 : Hid ((i + 1) * 8 ≤ 140737488355328) := hid (by omega)
      have HBS := HB1.out.size
      clear HYI HYK HCE hj hn1
      go_wp2_with fail
      go_region_held3 (fun W => X.C2 ⟨b, o + i, none⟩ ⟨b, o + j, none⟩ (.int .i64 x) (.int .i64 y) W) (first | with_reducible exact HKC.out.drew | with_reducible exact (HKC.out.alloc _).drew | with_reducible exact ((HKC.out.alloc _).alloc _).drew | with_reducible exact hcz.out | with_reducible exact hcp.out | with_reducible exact hcq.out | with_reducible exact hcp.out.alloc _ | with_reducible exact hcq.out.alloc _) (first | (refine X.step_append_ap rfl _ _ 22 rfl w1.heap.size 3 i0 (.int .i64 0) 1 8 Try.underlying22 hi hz0 hz1 hz2 rfl (by decide) _ _ _ rfl (X.Q3.p (HQ1.out.alloc _).drew) _ 1 1 [.int .i64 (60 - y)] rfl rfl ((X.Lit.one' (wr) (.int .i64 (60 - y)) 3 (wr.heap.size) (rfl)).drew) (X.one1 _) HM1.out HM2.out (by simp; omega) ?_; intro vp wp hop hgp hap; have hp := hid (X.Q3.push1 (HQ1.out.alloc _).drew hop hgp hap); have hbp := hid (Below.grown ((HB1.out.alloc HBS _).drew) hgp (by simp; omega) (fun g hg => (HOP.out g hg).1)); have hcp := hid (X.C2.kept (B := w1.heap.size) ((HKC.out.alloc _).drew) hgp (fun g hg => (HOP.out g hg).1) hbb hbb)) | (refine X.step_append_ap rfl _ _ 22 rfl w1.heap.size 3 i0 (.int .i64 0) 1 8 Try.underlying22 hi hz0 hz1 hz2 rfl (by decide) _ _ _ rfl (X.Q3.p ((HQ1.out.alloc _).alloc _).drew) _ 1 1 [.int .i64 (60 - y)] rfl rfl (((X.Lit.one' (wr) (.int .i64 (60 - y)) 3 (wr.heap.size) (rfl)).alloc (.cells #[.int .i64 (x + (s : Int))] 3)).drew) (X.one1 _) HM1.out HM2.out (by simp; omega) ?_; intro vp wp hop hgp hap; have hp := hid (X.Q3.push1 ((HQ1.out.alloc _).alloc _).drew hop hgp hap); have hbp := hid (Below.grown (((HB1.out.alloc HBS _).alloc (by simp; omega) _).drew) hgp (by simp; omega) (fun g hg => (HOP.out g hg).1)); have hcp := hid (X.C2.kept (B := w1.heap.size) (((HKC.out.alloc _).alloc _).drew) hgp (fun g hg => (HOP.out g hg).1) hbb hbb); have hlp := hid (X.Lit.kept ((X.Lit.one' (wr.alloc (.cells #[.int .i64 (60 - y)] 3)) (.int .i64 (x + (s : Int))) 3 (wr.heap.size + 1) (by simp)).drew) hgp (fun g hg => by have := (HOP.out g hg).2; simp; omega))) | (refine X.step_append_ap rfl _ _ 22 rfl w1.heap.size 3 i0 (.int .i64 0) 1 8 Try.underlying22 hi hz0 hz1 hz2 rfl (by decide) _ _ _ rfl (X.Q3.p ((HQ1.out.alloc _).alloc _).drew) _ 1 1 [.int .i64 (60 - y)] rfl rfl ((X.Lit.one' (wr.alloc (.cells #[.int .i64 (x + (s : Int))] 3)) (.int .i64 (60 - y)) 3 (wr.heap.size + 1) (by simp)).drew) (X.one1 _) HM1.out HM2.out (by simp; omega) ?_; intro vp wp hop hgp hap; have hp := hid (X.Q3.push1 ((HQ1.out.alloc _).alloc _).drew hop hgp hap); have hbp := hid (Below.grown (((HB1.out.alloc HBS _).alloc (by simp; omega) _).drew) hgp (by simp; omega) (fun g hg => (HOP.out g hg).1)); have hcp := hid (X.C2.kept (B := w1.heap.size) (((HKC.out.alloc _).alloc _).drew) hgp (fun g hg => (HOP.out g hg).1) hbb hbb); have hlp := hid (X.Lit.kept (((X.Lit.one' (wr) (.int .i64 (x + (s : Int))) 3 (wr.heap.size) (rfl)).alloc (.cells #[.int .i64 (60 - y)] 3)).drew) hgp (fun g hg => by have := (HOP.out g hg).2; simp; omega))) | (refine X.step_append_ap rfl _ _ 22 rfl w1.heap.size 3 i0 (.int .i64 0) 1 8 Try.underlying22 hi hz0 hz1 hz2 rfl (by decide) _ _ _ rfl (X.Q3.q (HQ1.out.alloc _).drew) _ 1 1 [.int .i64 (x + (s : Int))] rfl rfl ((X.Lit.one' (wr) (.int .i64 (x + (s : Int))) 3 (wr.heap.size) (rfl)).drew) (X.one1 _) HM1.out HM2.out (by simp; omega) ?_; intro vq wq hoq hgq haq; have hq := hid (X.Q3.push2 (HQ1.out.alloc _).drew hoq hgq haq); have hbq := hid (Below.grown ((HB1.out.alloc HBS _).drew) hgq (by simp; omega) (fun g hg => (HOQ.out g hg).1)); have hcq := hid (X.C2.kept (B := w1.heap.size) ((HKC.out.alloc _).drew) hgq (fun g hg => (HOQ.out g hg).1) hbb hbb)) | (refine X.step_append_ap rfl _ _ 22 rfl w1.heap.size 3 i0 (.int .i64 0) 1 8 Try.underlying22 hi hz0 hz1 hz2 rfl (by decide) _ _ _ rfl (X.Q3.q ((HQ1.out.alloc _).alloc _).drew) _ 1 1 [.int .i64 (x + (s : Int))] rfl rfl (((X.Lit.one' (wr) (.int .i64 (x + (s : Int))) 3 (wr.heap.size) (rfl)).alloc (.cells #[.int .i64 (60 - y)] 3)).drew) (X.one1 _) HM1.out HM2.out (by simp; omega) ?_; intro vq wq hoq hgq haq; have hq := hid (X.Q3.push2 ((HQ1.out.alloc _).alloc _).drew hoq hgq haq); have hbq := hid (Below.grown (((HB1.out.alloc HBS _).alloc (by simp; omega) _).drew) hgq (by simp; omega) (fun g hg => (HOQ.out g hg).1)); have hcq := hid (X.C2.kept (B := w1.heap.size) (((HKC.out.alloc _).alloc _).drew) hgq (fun g hg => (HOQ.out g hg).1) hbb hbb); have hlq := hid (X.Lit.kept ((X.Lit.one' (wr.alloc (.cells #[.int .i64 (x + (s : Int))] 3)) (.int .i64 (60 - y)) 3 (wr.heap.size + 1) (by simp)).drew) hgq (fun g hg => by have := (HOQ.out g hg).2; simp; omega))) | (refine X.step_append_ap rfl _ _ 22 rfl w1.heap.size 3 i0 (.int .i64 0) 1 8 Try.underlying22 hi hz0 hz1 hz2 rfl (by decide) _ _ _ rfl (X.Q3.q ((HQ1.out.alloc _).alloc _).drew) _ 1 1 [.int .i64 (x + (s : Int))] rfl rfl ((X.Lit.one' (wr.alloc (.cells #[.int .i64 (60 - y)] 3)) (.int .i64 (x + (s : Int))) 3 (wr.heap.size + 1) (by simp)).drew) (X.one1 _) HM1.out HM2.out (by simp; omega) ?_; intro vq wq hoq hgq haq; have hq := hid (X.Q3.push2 ((HQ1.out.alloc _).alloc _).drew hoq hgq haq); have hbq := hid (Below.grown (((HB1.out.alloc HBS _).alloc (by simp; omega) _).drew) hgq (by simp; omega) (fun g hg => (HOQ.out g hg).1)); have hcq := hid (X.C2.kept (B := w1.heap.size) (((HKC.out.alloc _).alloc _).drew) hgq (fun g hg => (HOQ.out g hg).1) hbb hbb); have hlq := hid (X.Lit.kept (((X.Lit.one' (wr) (.int .i64 (60 - y)) 3 (wr.heap.size) (rfl)).alloc (.cells #[.int .i64 (x + (s : Int))] 3)).drew) hgq (fun g hg => by have := (HOQ.out g hg).2; simp; omega))) | (refine X.step_append_ap rfl _ _ 22 rfl w1.heap.size 3 i0 (.int .i64 0) 1 8 Try.underlying22 hi hz0 hz1 hz2 rfl (by decide) _ _ _ rfl (X.Q3.p (hq.out.alloc _)) _ 1 1 [.int .i64 (60 - y)] rfl rfl (X.Lit.one' (wq) (.int .i64 (60 - y)) 3 (wq.heap.size) (rfl)) (X.one1 _) HM1.out HM2.out (by first | exact hbq.out.size | (have := hbq.out.size; simp; omega)) ?_; intro vp wp hop hgp hap; have hz := hid (X.Q3.push1 (hq.out.alloc _) hop hgp hap); have hbz := hid (Below.grown (hbq.out.alloc hbq.out.size _) hgp (by first | exact hbq.out.size | (have := hbq.out.size; simp; omega)) (fun g hg => (HOP.out g hg).1)); have hcz := hid (X.C2.kept (B := w1.heap.size) (hcq.out.alloc _) hgp (fun g hg => (HOP.out g hg).1) hbb hbb)) | (refine X.step_append_ap rfl _ _ 22 rfl w1.heap.size 3 i0 (.int .i64 0) 1 8 Try.underlying22 hi hz0 hz1 hz2 rfl (by decide) _ _ _ rfl (X.Q3.p hq.out) _ 1 1 [.int .i64 (60 - y)] rfl rfl (hlq.out) (X.one1 _) HM1.out HM2.out (by first | exact hbq.out.size | (have := hbq.out.size; simp; omega)) ?_; intro vp wp hop hgp hap; have hz := hid (X.Q3.push1 hq.out hop hgp hap); have hbz := hid (Below.grown (hbq.out) hgp (by first | exact hbq.out.size | (have := hbq.out.size; simp; omega)) (fun g hg => (HOP.out g hg).1)); have hcz := hid (X.C2.kept (B := w1.heap.size) (hcq.out) hgp (fun g hg => (HOP.out g hg).1) hbb hbb)) | (refine X.step_append_ap rfl _ _ 22 rfl w1.heap.size 3 i0 (.int .i64 0) 1 8 Try.underlying22 hi hz0 hz1 hz2 rfl (by decide) _ _ _ rfl (X.Q3.q (hp.out.alloc _)) _ 1 1 [.int .i64 (x + (s : Int))] rfl rfl (X.Lit.one' (wp) (.int .i64 (x + (s : Int))) 3 (wp.heap.size) (rfl)) (X.one1 _) HM1.out HM2.out (by first | exact hbp.out.size | (have := hbp.out.size; simp; omega)) ?_; intro vq wq hoq hgq haq; have hz := hid (X.Q3.push2 (hp.out.alloc _) hoq hgq haq); have hbz := hid (Below.grown (hbp.out.alloc hbp.out.size _) hgq (by first | exact hbp.out.size | (have := hbp.out.size; simp; omega)) (fun g hg => (HOQ.out g hg).1)); have hcz := hid (X.C2.kept (B := w1.heap.size) (hcp.out.alloc _) hgq (fun g hg => (HOQ.out g hg).1) hbb hbb)) | (refine X.step_append_ap rfl _ _ 22 rfl w1.heap.size 3 i0 (.int .i64 0) 1 8 Try.underlying22 hi hz0 hz1 hz2 rfl (by decide) _ _ _ rfl (X.Q3.q hp.out) _ 1 1 [.int .i64 (x + (s : Int))] rfl rfl (hlp.out) (X.one1 _) HM1.out HM2.out (by first | exact hbp.out.size | (have := hbp.out.size; simp; omega)) ?_; intro vq wq hoq hgq haq; have hz := hid (X.Q3.push2 hp.out hoq hgq haq); have hbz := hid (Below.grown (hbp.out) hgq (by first | exact hbp.out.size | (have := hbp.out.size; simp; omega)) (fun g hg => (HOQ.out g hg).1)); have hcz := hid (X.C2.kept (B := w1.heap.size) (hcp.out) hgq (fun g hg => (HOQ.out g hg).1) hbb hbb)))
      all_goals (
        have HZ := hid (HSN.out _ _ _ hz.out)
        have HBZ := hid hbz.out
        go_wp2
        go_roundw
        case rel => exact ⟨i + 1, by omega, by go_num, HZ.out, HBZ.out⟩
        case measure => simp [intOf]; omega)
    · have hie : i = l.length := by omega
      subst hie
      obtain ⟨x2, c2, rfl, hr2⟩ := X.rd_row (xs := X.back l l.length) HQ1.out.p
      obtain ⟨x3, c3, rfl, hr3⟩ := X.rd_row (xs := X.mov l s l.length) HQ1.out.q
      have HBW := hid (HB1.out.trans (HB2.out.mono HB1.out.size))
      have HD1 := hid (fun W (h : Below wr.heap.size wr W) => X.dis_b (some ⟨b, o, none⟩) k0 l _ W HOK.out (HL.out.stays (HB2.out.trans (h.mono HB2.out.size))) rfl)
      have HD2 := hid (fun W (h : Below wr.heap.size wr W) => X.dis_b x2 c2 _ _ W HBK.out.ok (hr2.stays h) HBK.out.sf)
      have HD3 := hid (fun W (h : Below wr.heap.size wr W) => X.dis_b x3 c3 _ _ W HMV.out.ok (hr3.stays h) HMV.out.sf)
      have HT1 := hid (fun W (h : Below wr.heap.size wr W) => X.twi_b (some ⟨b, o, none⟩) k0 l _ W HOK.out (HL.out.stays (HB2.out.trans (h.mono HB2.out.size))) rfl)
      have HT2 := hid (fun W (h : Below wr.heap.size wr W) => X.twi_b x2 c2 _ _ W HBK.out.ok (hr2.stays h) HBK.out.clr)
      have HT3 := hid (fun W (h : Below wr.heap.size wr W) => X.twi_b x3 c3 _ _ W HMV.out.ok (hr3.stays h) HMV.out.clr)
      have HE1 := hid (fun W (h : Below wr.heap.size wr W) => X.best_b (some ⟨b, o, none⟩) k0 l _ W (by unfold maxLen; omega) (HL.out.stays (HB2.out.trans (h.mono HB2.out.size))) rfl)
      have HE2 := hid (fun W (h : Below wr.heap.size wr W) => X.best_b x2 c2 _ _ W (by unfold maxLen; have := HBK.out.len; omega) (hr2.stays h) HBK.out.best)
      have HDL := hid (X.dist_len HOK.out)
      have hd : ¬ (l.length : Int) < (l.length : Int) := by omega
      clear hr2 hr3 HBK HMV HQ1 HOK HCE HSM HN1 HL
      generalize X.back l l.length = mb at *
      generalize X.mov l s l.length = mm at *
      generalize X.sf l true (X.lng l) = D at *
      generalize (if X.clr l = true then (5 : Int) else 0) = er at *
      generalize X.best l = z at *
      have hee : (er == er) = true := by simp
      have hzz : (z == z) = true := by simp
      clear hce hwm htm hwb hwq hmq
      go_wp2_with fail
      refine (HD1.out wr (Below.refl _ _)).mono ?_
      rintro e w3 ⟨d1, k1, rfl, D1, hb⟩
      have HB3 := hid hb
      clear hb HD1
      go_wp2_with fail
      refine (HD2.out _ HB3.out).mono ?_
      rintro e w4 ⟨d2, k2, rfl, D2, hb⟩
      have HB4 := hid (HB3.out.trans (hb.mono HB3.out.size))
      replace D1 := D1.stays hb
      clear hb HD2
      go_wp2_with fail
      refine (HD3.out _ HB4.out).mono ?_
      rintro e w5 ⟨d3, k3, rfl, D3, hb⟩
      have HB5 := hid (HB4.out.trans (hb.mono HB4.out.size))
      replace D1 := D1.stays hb
      replace D2 := D2.stays hb
      clear hb HD3
      have HN2 := hid (fun W (h : Below w5.heap.size w5 W) => X.nums_s d1 d2 k1 k2 D W HDL.out (D1.stays h) (D2.stays h))
      have HN3 := hid (fun W (h : Below w5.heap.size w5 W) => X.nums_s d1 d3 k1 k3 D W HDL.out (D1.stays h) (D3.stays h))
      have HC5 := hid (Below.refl w5.heap.size w5)
      clear D1 D2 D3 HB3 HB4
      obtain ⟨p1, p2, r1, r2, HTT⟩ := HT1.out _ (HB5.out.trans (HC5.out.mono HB5.out.size))
      have HTH := hid HTT
      clear HTT HT1
      go_wp2_with fail
      refine HTH.out.mono ?_
      rintro e w6 ⟨rfl, hb⟩
      have HC6 := hid (HC5.out.trans (hb.mono HC5.out.size))
      obtain ⟨W4, W5, hW4, hW5, hb8, B1, B2, y0', y1', y2', y3', f0', f1', n1', n2', s45'⟩ := X.put2 w6 (p1, p2) (r1, r2)
      dsimp only at hW5
      have HC7 := hid (HC6.out.trans (hb8.mono HC6.out.size))
      go_wp2_with fail
      try rw [hW4]
      try rw [hW5]
      clear hW4 hW5 y0' y1' y2' y3' f0' f1' n1' n2' s45' hb hb8 HTH B1 B2
      obtain ⟨p1, p2, r1, r2, HTT⟩ := HT2.out _ (HB5.out.trans (HC7.out.mono HB5.out.size))
      have HTH := hid HTT
      clear HTT HT2
      go_wp2_with fail
      refine HTH.out.mono ?_
      rintro e w8 ⟨rfl, hb⟩
      have HC8 := hid (HC7.out.trans (hb.mono HC7.out.size))
      obtain ⟨W4, W5, hW4, hW5, hb8, B1, B2, y0', y1', y2', y3', f0', f1', n1', n2', s45'⟩ := X.put2 w8 (p1, p2) (r1, r2)
      dsimp only at hW5
      have HC9 := hid (HC8.out.trans (hb8.mono HC8.out.size))
      go_wp2_with fail
      try rw [hW4]
      try rw [hW5]
      clear hW4 hW5 y0' y1' y2' y3' f0' f1' n1' n2' s45' hb hb8 HTH B1 B2
      obtain ⟨p1, p2, r1, r2, HTT⟩ := HT3.out _ (HB5.out.trans (HC9.out.mono HB5.out.size))
      have HTH := hid HTT
      clear HTT HT3
      go_wp2_with fail
      refine HTH.out.mono ?_
      rintro e w10 ⟨rfl, hb⟩
      have HC10 := hid (HC9.out.trans (hb.mono HC9.out.size))
      obtain ⟨W4, W5, hW4, hW5, hb8, B1, B2, y0', y1', y2', y3', f0', f1', n1', n2', s45'⟩ := X.put2 w10 (p1, p2) (r1, r2)
      dsimp only at hW5
      have HC11 := hid (HC10.out.trans (hb8.mono HC10.out.size))
      go_wp2_with fail
      try rw [hW4]
      try rw [hW5]
      clear hW4 hW5 y0' y1' y2' y3' f0' f1' n1' n2' s45' hb hb8 HTH B1 B2
      go_wp2_with fail
      refine (HN2.out _ HC11.out).mono ?_
      rintro e w12 ⟨rfl, hb⟩
      have HC12 := hid (HC11.out.trans (hb.mono HC11.out.size))
      clear hb
      go_wp2_with fail
      refine (HN3.out _ HC12.out).mono ?_
      rintro e w13 ⟨rfl, hb⟩
      have HC13 := hid (HC12.out.trans (hb.mono HC12.out.size))
      clear hb
      go_wp2_with fail
      have HB13 := hid (HB5.out.trans (HC13.out.mono HB5.out.size))
      refine (HE1.out _ HB13.out).mono ?_
      rintro e w14 ⟨rfl, hb⟩
      have HB14 := hid (HB13.out.trans (hb.mono HB13.out.size))
      clear hb
      go_wp2_with fail
      refine (HE2.out _ HB14.out).mono ?_
      rintro e w15 ⟨rfl, hb⟩
      have HB15 := hid (HB14.out.trans (hb.mono HB14.out.size))
      clear hb
      go_wp2_with fail
      refine (HWK.out _).mono ?_
      rintro e w16 ⟨rfl, hb⟩
      have HB16 := hid (HB15.out.trans (hb.mono HB15.out.size))
      clear hb
      go_wp2
      go_ret
      exact ⟨rfl, HBW.out.trans (HB16.out.mono HBW.out.size)⟩
end Go.Proofs.Ythaoacnaeafbeaa
