/- Package cross: the walk of meetArrows. -/
import Derived.Test.YthaoacnaeafbeaaXPrs
namespace Go.Proofs.Ythaoacnaeafbeaa
open Go.RowKit

/-- The way of an arrow. -/
def X.wy (l : List Int) (sz : Int) (p : Nat × Nat) : Nat := ((l.getD p.2 0 - l.getD p.1 0) % sz).toNat
/-- All arrows. -/
def X.arr (l : List Int) : List (Nat × Nat) := X.from X.ne l.length l.length 0
set_option maxHeartbeats 4000000 in
set_option maxRecDepth 100000 in
theorem meetArrows_any (b o c : Nat) (l : List Int) (sz : Int) (fn : FuncId) (cs : Array Value) (G : Nat → Prop) (Q : Option ((Nat × Nat) × (Nat × Nat)) → World → Prop) (w : World) (hl : RdI w (some ⟨b, o, none⟩) l) (hok : X.Ok l) (hs2 : 2 ≤ sz) (hs40 : sz ≤ 40) (hsl : ∀ i, i < l.length → l.getD i 0 < sz) (hgb : ∀ k, G k → k < w.heap.size) (hGb : ¬ G b)
    (hcf : ∀ args w, (callFunc fn args).run Try.prog w = .ok (.enter fn args) w)
    (hQ : ∀ r w1 w2, Q r w1 → w.heap.size ≤ w1.heap.size → Below w.heap.size w1 w2 → Q r w2) (hQ0 : Q none w)
    (hpass : ∀ r p q W, Q r W → w.heap.size ≤ W.heap.size → Calls Try.prog fn (#[X.pv p, X.pv q] ++ cs) W fun e w' => e = .returned (.tuple #[]) ∧ Q (some (p, q)) w' ∧ X.Exc G W w') :
    Calls Try.prog 67 #[.slice (some ⟨b, o, none⟩) l.length c, .int .i64 sz, .func (.func fn) #[] cs] w fun e w' => e = .returned (.tuple #[]) ∧ Q (X.tw (X.wy l sz) (X.arr l)) w' ∧ X.Exc G w w' := by
  have h2 := hok.two
  have h8 := hok.eight
  have HL := hid hl
  have HOK := hid hok
  have HPS := hid hpass
  have HQ := hid hQ
  have HGB := hid hgb
  have HGb := hid hGb
  have HCF := hid hcf
  have HQ0 := hid (hQ _ _ _ hQ0 (Nat.le_refl _) ((Below.refl w.heap.size w).alloc (Nat.le_refl _) (.cells Try.zeroCells61 61)))
  have HM0 := hid (X.met_new w (X.wy l sz))
  have HE0 := hid ((X.Exc.refl G w).alloc (.cells Try.zeroCells61 61))
  have HSZ : Hid ((w.alloc (.cells Try.zeroCells61 61)).heap.size = w.heap.size + 1) := hid (by simp)
  clear hl hok hpass hQ hgb hcf hQ0 hGb
  go_enter Try.func67, Try.ntmps67
  go_wp2_with fail
  generalize w.alloc (.cells Try.zeroCells61 61) = w1 at *
  go_loopw [7] (fun i wr => ∃ q : Nat, q ≤ l.length ∧ i = .int .i64 ((q : Int) - 1) ∧ X.MetAt wr w.heap.size (X.wy l sz) (X.from X.ne l.length (l.length - q) q) ∧ Q (X.tw (X.wy l sz) (X.from X.ne l.length (l.length - q) q)) wr ∧ X.Exc (fun k => w.heap.size ≤ k ∨ G k) w1 wr) (fun i _ => (intOf i + 1).toNat)
  case atStart => exact ⟨l.length, Nat.le_refl _, by go_num, by rw [Nat.sub_self]; exact HM0.out, by rw [Nat.sub_self]; exact HQ0.out, X.Exc.refl _ _⟩
  case round => as_aux_lemma =>
    obtain ⟨q, hq, rfl, hM, hQ, hE⟩ := hrel
    have HM := hid hM
    have HQW := hid hQ
    have HE := hid hE
    clear hM hQ hE HM0 HQ0
    by_cases hq0 : q = 0
    · subst hq0
      rw [Nat.sub_zero] at HM HQW
      have HEX : Hid (X.Exc G w wr) := hid (by
        have e1 := (HE0.out.mono (G' := fun k => w.heap.size ≤ k ∨ G k) (fun k _ h => .inr h)).trans HE.out
        exact e1.mono (fun k hk h => h.elim (fun h => absurd hk (by omega)) id))
      have HQF := hid HQW.out
      clear HM HQW HE HE0
      go_wp2
      go_end0
      exact ⟨rfl, HQF.out, HEX.out⟩
    · obtain ⟨i, rfl⟩ : ∃ i, q = i + 1 := ⟨q - 1, by omega⟩
      have hi : i < l.length := by omega
      have hge : (0 : Int) ≤ (i : Int) := by omega
      have e1 : (((i + 1 : Nat) : Int) - 1) = (i : Int) := by omega
      rw [e1]
      go_wp2_with fail
      go_loopw [8] (fun k wr => ∃ r : Nat, r ≤ l.length ∧ k = .int .i64 ((r : Int) - 1) ∧ X.MetAt wr w.heap.size (X.wy l sz) (X.seg X.ne l.length i (l.length - r) r ++ X.from X.ne l.length (l.length - (i + 1)) (i + 1)) ∧ Q (X.tw (X.wy l sz) (X.seg X.ne l.length i (l.length - r) r ++ X.from X.ne l.length (l.length - (i + 1)) (i + 1))) wr ∧ X.Exc (fun k => w.heap.size ≤ k ∨ G k) w1 wr) (fun k _ => (intOf k + 1).toNat)
      case atStart => exact ⟨l.length, Nat.le_refl _, by go_num, by rw [Nat.sub_self]; exact HM.out, by rw [Nat.sub_self]; exact HQW.out, HE.out⟩
      case round => as_aux_lemma =>
        obtain ⟨r, hr2, rfl, hM, hQ, hE⟩ := hrel
        have HM := hid hM
        have HQW := hid hQ
        have HE := hid hE
        clear hM hQ hE
        by_cases hr : r = 0
        · subst hr
          have HFR := hid (X.from_cons (ok := X.ne) hi)
          rw [Nat.sub_zero, ← HFR.out] at HM HQW
          go_wp2
          go_roundw
          case rel => exact ⟨i, by omega, by go_num, HM.out, HQW.out, HE.out⟩
          case measure => first | (simp [intOf]; done) | (simp [intOf]; omega)
        · obtain ⟨k, rfl⟩ : ∃ k, r = k + 1 := ⟨r - 1, by omega⟩
          have hk : k < l.length := by omega
          have e2 : (((k + 1 : Nat) : Int) - 1) = (k : Int) := by omega
          rw [e2]
          have hkge : (0 : Int) ≤ (k : Int) := by omega
          by_cases hik : i = k
          · subst hik
            have HSO := hid (X.seg_over (ok := X.ne) (n := l.length) (i := i) hk (by unfold X.ne; simp))
            rw [← HSO.out] at HM HQW
            have hnn : ((i : Int) != (i : Int)) = false := by simp
            go_wp2
            go_roundw
            case rel => exact ⟨i, by omega, by go_num, HM.out, HQW.out, HE.out⟩
            case measure => first | (simp [intOf]; done) | (simp [intOf]; omega)
          have HSC := hid (X.seg_cons (ok := X.ne) (i := i) hk (by unfold X.ne; simpa using hik))
          have hnn : ((i : Int) != (k : Int)) = true := by simp; omega
          have h1i := HOK.out.up.lo i hi
          have h1k := HOK.out.up.lo k hk
          have h2i := hsl i hi
          have h2k := hsl k hk
          have HTM : Hid (0 ≤ (l.getD k 0 - l.getD i 0) % sz ∧ (l.getD k 0 - l.getD i 0) % sz < sz) := hid ⟨Int.emod_nonneg _ (by omega), Int.emod_lt_of_pos _ (by omega)⟩
          have HCE : Hid (∀ j, j < l.length → w1.cell? ⟨b, o + j, none⟩ = some (.int .i64 (l.getD j 0)) ∧ ¬ (w.heap.size ≤ b ∨ G b)) := hid (fun j hj => by
            obtain ⟨b', o', he, hc⟩ := X.num HL.out hj
            simp only [Option.some.injEq, Addr.mk.injEq, and_true] at he
            obtain ⟨rfl, rfl⟩ := he
            have hb : b < w.heap.size := World.block_lt_of_cell? _ _ hc
            exact ⟨HE0.out.cell hc HGb.out, fun h => h.elim (fun h => by omega) HGb.out⟩)
          have HMT : Hid (∀ W, Below wr.heap.size wr W → Calls Try.prog 70 #[.pointer (some ⟨w.heap.size, 0, none⟩), .agg #[.int .i64 (i : Int), .int .i64 (k : Int)], .int .i64 ((l.getD k 0 - l.getD i 0) % sz), .func (.func fn) #[] cs] W fun e w' => e = .returned (.tuple #[]) ∧ X.MetAt w' w.heap.size (X.wy l sz) (X.seg X.ne l.length i (l.length - k) k ++ X.from X.ne l.length (l.length - (i + 1)) (i + 1)) ∧ Q (X.tw (X.wy l sz) (X.seg X.ne l.length i (l.length - k) k ++ X.from X.ne l.length (l.length - (i + 1)) (i + 1))) w' ∧ X.Exc (fun k => w.heap.size ≤ k ∨ G k) w1 w') := hid (fun W hb => by
            have hsz : w.heap.size ≤ wr.heap.size := Nat.le_trans (by have := HSZ.out; omega) HE.out.size
            have := meet_both w.heap.size (X.wy l sz) (X.seg X.ne l.length i (l.length - (k + 1)) (k + 1) ++ X.from X.ne l.length (l.length - (i + 1)) (i + 1)) (i, k) fn cs G Q w W (Nat.le_trans hsz hb.size) (HM.out.of_block (hb.block _ HM.out.lt)) (by unfold X.wy; dsimp only; have := HTM.out; omega) (fun p hp => by
              rcases List.mem_append.1 hp with h | h
              · have := (X.mem_seg.1 h).2.2.2
                unfold X.ne at this; simp at this; have := (X.mem_seg.1 h).1; omega
              · have := (X.mem_from.1 h).2.2.2
                unfold X.ne at this; simpa using this) (Nat.le_refl _) HGB.out HCF.out HQ.out (HQ.out _ _ _ HQW.out hsz (hb.mono hsz)) HPS.out
            rw [show ((X.wy l sz (i, k) : Nat) : Int) = (l.getD k 0 - l.getD i 0) % sz by unfold X.wy; dsimp only; have := HTM.out; omega] at this
            refine this.mono ?_
            rintro e w' ⟨rfl, h1, h2, h3⟩
            rw [HSC.out]
            exact ⟨rfl, h1, h2, HE.out.trans ((X.Exc.of hb).trans (h3.mono (fun k _ h => h.elim (fun h => .inl (by omega)) .inr)))⟩)
          have HNB := hid (HCE.out i hi).2
          have v0 := (HCE.out i hi).1
          have v1 := (HCE.out k hk).1
          have y0 := HE.out.cell v0 HNB.out
          have y1 := HE.out.cell v1 HNB.out
          have hixi : (0 : Int) ≤ (i : Int) ∧ (i : Int) < (l.length : Int) := by omega
          have hixk : (0 : Int) ≤ (k : Int) ∧ (k : Int) < (l.length : Int) := by omega
          have hwr : IntKind.i64.wrap (l.getD k 0 - l.getD i 0) = l.getD k 0 - l.getD i 0 := IntWalk.i64_in _ (by omega)
          have hwr2 : IntKind.i64.wrap (l.getD k 0 - l.getD i 0 + sz) = l.getD k 0 - l.getD i 0 + sz := IntWalk.i64_in _ (by omega)
          have hsz0 : (sz == 0) = false := by simp; omega
          have hsz1 : ¬ sz = 0 := by omega
          have hnn2 : 0 ≤ l.getD k 0 - l.getD i 0 + sz := by omega
          have HTL := HTM.out
          have hwr3 : IntKind.i64.wrap ((l.getD k 0 - l.getD i 0) % sz) = (l.getD k 0 - l.getD i 0) % sz := IntWalk.i64_in _ (by omega)
          have htm : (l.getD k 0 - l.getD i 0 + sz).tmod sz = (l.getD k 0 - l.getD i 0) % sz := by rw [Int.tmod_eq_emod_of_nonneg hnn2]; simp
          generalize l.getD k 0 = y at *
          generalize l.getD i 0 = x at *
          clear HCE HM HQW
          go_wp2_with fail
          go_region_held3 (fun W => W.cell? ⟨b, o + i, none⟩ = some (.int .i64 x) ∧ W.cell? ⟨b, o + k, none⟩ = some (.int .i64 y)) (first | exact ⟨z0, z1⟩ | exact ⟨y0, y1⟩ | go_keep) (first | ((with_reducible refine (HMT.out _ (Below.refl _ _).drew).mono ?_); rintro e w3 ⟨rfl, hM3, hQ3, hE3⟩; have z0 := hE3.cell v0 HNB.out; have z1 := hE3.cell v1 HNB.out))
          have HM3 := hid hM3
          have HQ3 := hid hQ3
          have HE3 := hid hE3
          clear hM3 hQ3 hE3 y0 y1 v0 v1 HMT
          go_wp2
          go_roundw
          case rel => exact ⟨k, by omega, by go_num, HM3.out, HQ3.out, HE3.out⟩
          case measure => first | (simp [intOf]; done) | (simp [intOf]; omega)
end Go.Proofs.Ythaoacnaeafbeaa
