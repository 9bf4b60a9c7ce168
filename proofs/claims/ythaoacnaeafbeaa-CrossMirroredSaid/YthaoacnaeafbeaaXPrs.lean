/- Package cross: the walk of meetPairs. -/
import Derived.Test.YthaoacnaeafbeaaXMee
import Derived.Laws.CopyOwn
import Derived.Laws.Rows
import Derived.Laws.Tables
namespace Go.Proofs.Ythaoacnaeafbeaa
open Go.RowKit

theorem X.seg_up {n i : Nat} (hi : i < n) : ∀ j, j ≤ i + 1 → X.seg X.up n i n 0 = X.seg X.up n i (n - j) j
  | 0, _ => rfl
  | j + 1, h => by
    rw [X.seg_up hi j (by omega), show n - j = (n - (j + 1)) + 1 by omega]
    conv => lhs; unfold X.seg
    rw [if_neg (by unfold X.up; simp; omega)]
theorem X.seg_cons {ok : Nat → Nat → Bool} {n i k : Nat} (hk : k < n) (h : ok i k = true) : X.seg ok n i (n - k) k = (i, k) :: X.seg ok n i (n - (k + 1)) (k + 1) := by
  rw [show n - k = (n - (k + 1)) + 1 by omega]
  conv => lhs; unfold X.seg
  rw [if_pos h]
theorem X.seg_over {ok : Nat → Nat → Bool} {n i k : Nat} (hk : k < n) (h : ok i k = false) : X.seg ok n i (n - k) k = X.seg ok n i (n - (k + 1)) (k + 1) := by
  rw [show n - k = (n - (k + 1)) + 1 by omega]
  conv => lhs; unfold X.seg
  rw [if_neg (by rw [h]; simp)]
theorem X.from_cons {ok : Nat → Nat → Bool} {n i : Nat} (hi : i < n) : X.from ok n (n - i) i = X.seg ok n i n 0 ++ X.from ok n (n - (i + 1)) (i + 1) := by
  rw [show n - i = (n - (i + 1)) + 1 by omega]
  rfl
theorem X.tw_new {D : Nat × Nat → Nat} {S : List (Nat × Nat)} {p : Nat × Nat} (h0 : ∀ p ∈ S, p.1 ≠ p.2) (h : X.has D S (D p) = false) : X.tw D (p :: S) = X.tw D S := by
  rcases X.has_met (D := D) (d := D p) h0 with ⟨h1, _, _⟩ | ⟨_, h2, _⟩
  · rw [h] at h1; cases h1
  · conv => lhs; unfold X.tw
    rw [h2]
theorem X.tw_again {D : Nat × Nat → Nat} {S : List (Nat × Nat)} {p : Nat × Nat} (h0 : ∀ p ∈ S, p.1 ≠ p.2) (h : X.has D S (D p) = true) : X.tw D (p :: S) = some (p, X.met D S (D p)) := by
  rcases X.has_met (D := D) (d := D p) h0 with ⟨_, h1, _⟩ | ⟨h2, _, _⟩
  · conv => lhs; unfold X.tw
    rw [h1]
  · rw [h] at h2; cases h2

theorem X.isZ_all : ((List.range 122).all fun j => match Try.zeroCells61[j]? with | some (.int .i64 x) => x == 0 | _ => false) = true := by kernel_rfl
theorem X.zer {j : Nat} (h : j < 122) : Try.zeroCells61[j]? = some (.int .i64 0) := by
  have := List.all_eq_true.1 X.isZ_all j (List.mem_range.2 h)
  split at this
  · rename_i x e
    rw [e, show x = 0 by simpa using this]
  · cases this
theorem X.met_new (w : World) (D : Nat × Nat → Nat) : X.MetAt (w.alloc (.cells Try.zeroCells61 61)) w.heap.size D [] := by
  have hs : Try.zeroCells61.size = 122 := by kernel_rfl
  have := World.rowIs_alloc w Try.zeroCells61 61 (X.cel D []) (fun i hi => by
    rw [hs] at hi
    rw [X.zer hi]
    unfold X.cel X.met
    simp)
  rw [hs] at this
  exact this
/-- What meets do: a pair is met, and passed on if its distance was met before. -/
theorem meet_both (g : Nat) (D : Nat × Nat → Nat) (S : List (Nat × Nat)) (p : Nat × Nat) (fn : FuncId) (cs : Array Value) (G : Nat → Prop) (Q : Option ((Nat × Nat) × (Nat × Nat)) → World → Prop) (w0 w : World) (hw : w0.heap.size ≤ w.heap.size) (hM : X.MetAt w g D S) (hd : D p ≤ 60) (h0 : ∀ p ∈ S, p.1 ≠ p.2) (hg : w0.heap.size ≤ g) (hgb : ∀ k, G k → k < w0.heap.size)
    (hcf : ∀ args w, (callFunc fn args).run Try.prog w = .ok (.enter fn args) w)
    (hQ : ∀ r w1 w2, Q r w1 → w0.heap.size ≤ w1.heap.size → Below w0.heap.size w1 w2 → Q r w2) (hQw : Q (X.tw D S) w)
    (hpass : ∀ r p q W, Q r W → w0.heap.size ≤ W.heap.size → Calls Try.prog fn (#[X.pv p, X.pv q] ++ cs) W fun e w' => e = .returned (.tuple #[]) ∧ Q (some (p, q)) w' ∧ X.Exc G W w') :
    Calls Try.prog 70 #[.pointer (some ⟨g, 0, none⟩), X.pv p, .int .i64 (D p), .func (.func fn) #[] cs] w fun e w' => e = .returned (.tuple #[]) ∧ X.MetAt w' g D (p :: S) ∧ Q (X.tw D (p :: S)) w' ∧ X.Exc (fun k => k = g ∨ G k) w w' := by
  cases hn : X.has D S (D p) with
  | false =>
    refine (meet_new g D S p (D p) _ w hM hd rfl h0 hn).mono ?_
    rintro e w' ⟨rfl, h1, h2⟩
    refine ⟨rfl, h1, ?_, h2.mono (fun k _ h => .inl h)⟩
    rw [X.tw_new h0 hn]
    exact hQ _ _ _ hQw hw (h2.below hw (fun k hk e => by omega))
  | true =>
    refine (meet_again g D S p (D p) fn cs G (fun W => Q (some (p, X.met D S (D p))) W ∧ w0.heap.size ≤ W.heap.size) w hM hd rfl h0 hn (fun h => by have := hgb g h; omega) (fun k hk => by have := hgb k hk; omega) hcf ?_ ?_).mono ?_
    · rintro w1 w2 ⟨h1, h2⟩ h3
      exact ⟨hQ _ _ _ h1 h2 (h3.below h2 (fun k hk e => by omega)), Nat.le_trans h2 h3.size⟩
    · intro W hb
      refine (hpass _ _ _ W (hQ _ _ _ hQw hw (hb.mono hw)) (Nat.le_trans hw hb.size)).mono ?_
      rintro e w' ⟨rfl, h1, h2⟩
      exact ⟨rfl, ⟨h1, Nat.le_trans (Nat.le_trans hw hb.size) h2.size⟩, h2⟩
    · rintro e w' ⟨rfl, h1, h2, h3⟩
      exact ⟨rfl, h1, by rw [X.tw_again h0 hn]; exact h2.1, h3⟩

/-- The distance of a pair. -/
def X.dis (l : List Int) (p : Nat × Nat) : Nat := (l.getD p.2 0 - l.getD p.1 0).toNat
/-- All pairs. -/
def X.prs (l : List Int) : List (Nat × Nat) := X.from X.up l.length l.length 0

set_option maxHeartbeats 4000000 in
set_option maxRecDepth 100000 in
theorem meetPairs_any (b o c : Nat) (l : List Int) (fn : FuncId) (cs : Array Value) (G : Nat → Prop) (Q : Option ((Nat × Nat) × (Nat × Nat)) → World → Prop) (w : World) (hl : RdI w (some ⟨b, o, none⟩) l) (hok : X.Ok l) (hgb : ∀ k, G k → k < w.heap.size) (hGb : ¬ G b)
    (hcf : ∀ args w, (callFunc fn args).run Try.prog w = .ok (.enter fn args) w)
    (hQ : ∀ r w1 w2, Q r w1 → w.heap.size ≤ w1.heap.size → Below w.heap.size w1 w2 → Q r w2) (hQ0 : Q none w)
    (hpass : ∀ r p q W, Q r W → w.heap.size ≤ W.heap.size → Calls Try.prog fn (#[X.pv p, X.pv q] ++ cs) W fun e w' => e = .returned (.tuple #[]) ∧ Q (some (p, q)) w' ∧ X.Exc G W w') :
    Calls Try.prog 44 #[.slice (some ⟨b, o, none⟩) l.length c, .func (.func fn) #[] cs] w fun e w' => ∃ m : Array Value, e = .returned (.agg m) ∧ m.size = 122 ∧ (∀ j, j < 122 → m[j]? = some (X.cel (X.dis l) (X.prs l) j)) ∧ Q (X.tw (X.dis l) (X.prs l)) w' ∧ X.Exc G w w' := by
  have h2 := hok.two
  have h8 := hok.eight
  have HL := hid hl
  have HOK := hid hok
  have HPS := hid hpass
  have HQ := hid hQ
  have HGB := hid hgb
  have HGb := hid hGb
  have HCF := hid hcf
  have HQ0 := hid (hQ _ _ _ hQ0 (Nat.le_refl _) ((((Below.refl w.heap.size w).alloc (Nat.le_refl _) (.cells Try.zeroCells61 61)).alloc (by simp) (.cells Try.zeroCells61 61))))
  have HM0 := hid (X.met_new (w.alloc (.cells Try.zeroCells61 61)) (X.dis l))
  rw [show (w.alloc (.cells Try.zeroCells61 61)).heap.size = w.heap.size + 1 by simp] at HM0
  have HE0 := hid (((X.Exc.refl G w).alloc (.cells Try.zeroCells61 61)).alloc (.cells Try.zeroCells61 61))
  have HG0 : Hid (((w.alloc (.cells Try.zeroCells61 61)).alloc (.cells Try.zeroCells61 61)).rowIs w.heap.size 61 122 (X.cel (X.dis l) [])) := hid (World.rowIs.alloc (X.met_new w (X.dis l)) _)
  have HSZ : Hid (((w.alloc (.cells Try.zeroCells61 61)).alloc (.cells Try.zeroCells61 61)).heap.size = w.heap.size + 2) := hid (by simp)
  clear hl hok hpass hQ hgb hcf hQ0 hGb
  go_enter Try.func44, Try.ntmps44
  go_wp2_with fail
  generalize (w.alloc (.cells Try.zeroCells61 61)).alloc (.cells Try.zeroCells61 61) = w1 at *
  go_loopw [6] (fun i wr => ∃ q : Nat, q ≤ l.length ∧ i = .int .i64 ((q : Int) - 1) ∧ X.MetAt wr (w.heap.size + 1) (X.dis l) (X.from X.up l.length (l.length - q) q) ∧ Q (X.tw (X.dis l) (X.from X.up l.length (l.length - q) q)) wr ∧ X.Exc (fun k => w.heap.size < k ∨ G k) w1 wr) (fun i _ => (intOf i + 1).toNat)
  case atStart => exact ⟨l.length, Nat.le_refl _, by go_num, by rw [Nat.sub_self]; exact HM0.out, by rw [Nat.sub_self]; exact HQ0.out, X.Exc.refl _ _⟩
  case round => as_aux_lemma =>
    obtain ⟨q, hq, rfl, hM, hQ, hE⟩ := hrel
    have HM := hid hM
    have HQW := hid hQ
    have HE := hid hE
    clear hM hQ hE HM0 HQ0
    by_cases hq0 : q = 0
    · subst hq0
      rw [Nat.sub_zero] at HM HQW
      have hm := HM.out
      obtain ⟨m, hm1, hm2, hm3⟩ := hm
      obtain ⟨m0, hg1, hg2, hg3⟩ := HE.out.row HG0.out (fun h => h.elim (fun h => Nat.lt_irrefl _ h) (fun h => Nat.lt_irrefl _ (HGB.out _ h)))
      have HM3 := hid hm3
      have HEX : Hid (X.Exc G w (wr.setRow w.heap.size m)) := hid (by
        have e1 := (HE0.out.mono (G' := fun k => w.heap.size < k ∨ G k) (fun k _ h => .inr h)).trans HE.out
        have e2 : X.Exc G w wr := e1.mono (fun k hk h => h.elim (fun h => absurd hk (by omega)) id)
        exact e2.then (below_setRow (Below.refl w.heap.size wr) (Nat.le_refl _) m))
      have HQF := hid (HQ.out _ _ _ HQW.out (Nat.le_trans (by have := HSZ.out; omega) HE.out.size) (below_setRow (Below.refl w.heap.size wr) (Nat.le_refl _) m))
      have HM2 := hid hm2
      have HONE : Hid ((m.all fun x => x.oneCell') = true) := hid (by
        rw [Array.all_eq_true]
        intro j hj
        have := hm3 j (by omega)
        rw [Array.getElem?_eq_getElem hj] at this
        rw [Option.some.inj this]
        rfl)
      clear hm3 HM HQW HE HE0 HG0 hg3
      go_wp2_with (first
        | (refine wpList_load_row rfl 61 _ rfl (w.heap.size + 1) rfl 61 _ (0, 0) _ hm1 Try.underlying61 rfl ?q0 ?_)
        | (refine wpList_store_row rfl 61 _ _ rfl w.heap.size _ rfl rfl 61 _ hg1 ?q1 ?q2 ?q3 ?_))
      case q0 => rw [HM2.out]; kernel_rfl
      case q1 => rw [HM2.out]; kernel_rfl
      case q2 => rw [HM2.out]; exact hg2
      case q3 => exact HONE.out
      exact bodyPost_ret (results_cell_row rfl _ _ w.heap.size 61 _ (0, 0) _ rfl (setRow_heap _ _ _ _ _ _ hg1) Try.underlying61 rfl (by rw [HM2.out]; kernel_rfl)) rfl ⟨_, rfl, HM2.out, HM3.out, HQF.out, HEX.out⟩
    · obtain ⟨i, rfl⟩ : ∃ i, q = i + 1 := ⟨q - 1, by omega⟩
      have hi : i < l.length := by omega
      have hge : (0 : Int) ≤ (i : Int) := by omega
      have e1 : (((i + 1 : Nat) : Int) - 1) = (i : Int) := by omega
      rw [e1]
      go_wp2_with fail
      go_loopw [7] (fun k wr => ∃ r : Nat, i + 1 ≤ r ∧ r ≤ l.length ∧ k = .int .i64 ((r : Int) - 1) ∧ X.MetAt wr (w.heap.size + 1) (X.dis l) (X.seg X.up l.length i (l.length - r) r ++ X.from X.up l.length (l.length - (i + 1)) (i + 1)) ∧ Q (X.tw (X.dis l) (X.seg X.up l.length i (l.length - r) r ++ X.from X.up l.length (l.length - (i + 1)) (i + 1))) wr ∧ X.Exc (fun k => w.heap.size < k ∨ G k) w1 wr) (fun k _ => (intOf k + 1).toNat)
      case atStart => exact ⟨l.length, by omega, Nat.le_refl _, by go_num, by rw [Nat.sub_self]; exact HM.out, by rw [Nat.sub_self]; exact HQW.out, HE.out⟩
      case round => as_aux_lemma =>
        obtain ⟨r, hr1, hr2, rfl, hM, hQ, hE⟩ := hrel
        have HM := hid hM
        have HQW := hid hQ
        have HE := hid hE
        clear hM hQ hE
        by_cases hr : r = i + 1
        · subst hr
          have HSG := hid (X.seg_up (n := l.length) hi (i + 1) (Nat.le_refl _))
          have HFR := hid (X.from_cons (ok := X.up) hi)
          rw [← HSG.out, ← HFR.out] at HM HQW
          have hno : ¬ ((i : Int) < (i : Int)) := by omega
          rw [e1]
          go_wp2
          go_roundw
          case rel => exact ⟨i, by omega, by go_num, HM.out, HQW.out, HE.out⟩
          case measure => first | (simp [intOf]; done) | (simp [intOf]; omega)
        · obtain ⟨k, rfl⟩ : ∃ k, r = k + 1 := ⟨r - 1, by omega⟩
          have hk : k < l.length := by omega
          have hik : i < k := by omega
          have e2 : (((k + 1 : Nat) : Int) - 1) = (k : Int) := by omega
          rw [e2]
          have HSC := hid (X.seg_cons (ok := X.up) (i := i) hk (by unfold X.up; simpa using hik))
          have HRG := HOK.out.rng hik hk
          have HCE : Hid (∀ j, j < l.length → w1.cell? ⟨b, o + j, none⟩ = some (.int .i64 (l.getD j 0)) ∧ ¬ (w.heap.size < b ∨ G b)) := hid (fun j hj => by
            obtain ⟨b', o', he, hc⟩ := X.num HL.out hj
            simp only [Option.some.injEq, Addr.mk.injEq, and_true] at he
            obtain ⟨rfl, rfl⟩ := he
            have hb : b < w.heap.size := World.block_lt_of_cell? _ _ hc
            exact ⟨HE0.out.cell hc HGb.out, fun h => h.elim (fun h => by omega) HGb.out⟩)
          have HMT : Hid (∀ W, Below wr.heap.size wr W → Calls Try.prog 70 #[.pointer (some ⟨w.heap.size + 1, 0, none⟩), .agg #[.int .i64 (i : Int), .int .i64 (k : Int)], .int .i64 (l.getD k 0 - l.getD i 0), .func (.func fn) #[] cs] W fun e w' => e = .returned (.tuple #[]) ∧ X.MetAt w' (w.heap.size + 1) (X.dis l) (X.seg X.up l.length i (l.length - k) k ++ X.from X.up l.length (l.length - (i + 1)) (i + 1)) ∧ Q (X.tw (X.dis l) (X.seg X.up l.length i (l.length - k) k ++ X.from X.up l.length (l.length - (i + 1)) (i + 1))) w' ∧ X.Exc (fun k => w.heap.size < k ∨ G k) w1 w') := hid (fun W hb => by
            have hsz : w.heap.size ≤ wr.heap.size := Nat.le_trans (by have := HSZ.out; omega) HE.out.size
            have := meet_both (w.heap.size + 1) (X.dis l) (X.seg X.up l.length i (l.length - (k + 1)) (k + 1) ++ X.from X.up l.length (l.length - (i + 1)) (i + 1)) (i, k) fn cs G Q w W (Nat.le_trans hsz hb.size) (HM.out.of_block (hb.block _ HM.out.lt)) (by unfold X.dis; dsimp only; omega) (fun p hp => by
              rcases List.mem_append.1 hp with h | h
              · have := (X.mem_seg.1 h).2.2.2
                unfold X.up at this; simp at this; have := (X.mem_seg.1 h).1; omega
              · have := (X.mem_from.1 h).2.2.2
                unfold X.up at this; simp at this; omega) (by omega) HGB.out HCF.out HQ.out (HQ.out _ _ _ HQW.out hsz (hb.mono hsz)) HPS.out
            rw [show ((X.dis l (i, k) : Nat) : Int) = l.getD k 0 - l.getD i 0 by unfold X.dis; dsimp only; omega] at this
            refine this.mono ?_
            rintro e w' ⟨rfl, h1, h2, h3⟩
            rw [HSC.out]
            exact ⟨rfl, h1, h2, HE.out.trans ((X.Exc.of hb).trans (h3.mono (fun k _ h => h.elim (fun h => .inl (by omega)) .inr)))⟩)
          have HNB := hid (HCE.out i hi).2
          have v0 := (HCE.out i hi).1
          have v1 := (HCE.out k hk).1
          have y0 := HE.out.cell v0 HNB.out
          have y1 := HE.out.cell v1 HNB.out
          have hixi : (0 : Int) ≤ (i : Int) ∧ (i : Int) < (l.length : Int) := by omega
          have hixk : (0 : Int) ≤ (k : Int) ∧ (k : Int) < (l.length : Int) := by omega
          have hwr : IntKind.i64.wrap (l.getD k 0 - l.getD i 0) = l.getD k 0 - l.getD i 0 := IntWalk.i64_in _ (by omega)
          have hgt : ((i : Int) < (k : Int)) := by omega
          generalize l.getD k 0 = y at *
          generalize l.getD i 0 = x at *
          clear HCE HM HQW
          go_wp2_with fail
          go_region_held3 (fun W => W.cell? ⟨b, o + i, none⟩ = some (.int .i64 x) ∧ W.cell? ⟨b, o + k, none⟩ = some (.int .i64 y)) (first | exact ⟨z0, z1⟩ | exact ⟨y0, y1⟩ | go_keep) (first | ((with_reducible refine (HMT.out _ (Below.refl _ _).drew).mono ?_); rintro e w3 ⟨rfl, hM3, hQ3, hE3⟩; have z0 := hE3.cell v0 HNB.out; have z1 := hE3.cell v1 HNB.out))
          have HM3 := hid hM3
          have HQ3 := hid hQ3
          have HE3 := hid hE3
          clear hM3 hQ3 hE3 y0 y1 v0 v1 HMT
          go_wp2
          go_roundw
          case rel => exact ⟨k, by omega, by omega, by go_num, HM3.out, HQ3.out, HE3.out⟩
          case measure => first | (simp [intOf]; done) | (simp [intOf]; omega)
end Go.Proofs.Ythaoacnaeafbeaa
