/- A range over a function whose iterator hands out memory that it reads again (slices of slices): a round leaves what came since the range began. -/
import Derived.Test.YthnklabdjaiplaaDoorMQ
namespace Go.Proofs.YthnklabdjaiplaaDoor
open Go.RowKit

/-- What a round keeps: the foreign blocks, and all that came since the range began. -/
def M.Kw (B : Nat) (A : Nat → Prop) (W W' : World) : Prop := M.Kq (fun k => A k ∨ (B ≤ k ∧ k < W.heap.size)) W W'

/-- The iterator's contract, where a round leaves what came since the range began. 'R x W': the memory of what it hands out; 'Bk x': its blocks; 'Bx': what the iterator itself reads. -/
def M.SeqK {α : Type} (F : Fence) (n : Nat) (P : Program) (g : Nat) (lb : Array Value) (encs : α → Array Value) (R : α → World → Prop) (Bk : α → Nat → Prop) (Bx : (Nat → Prop) → World → Prop) (S Sp : List α → Prop) (N : Nat) : Prop :=
  ∀ (l : Nat) (J Jx : List α → (Nat → Prop) → World → Prop) (A : Nat → Prop) (W : World), Bx A W → (∀ k, A k → k < W.heap.size) → M.Ab J → M.Ab Jx →
    (∀ pre x A1 W1, J pre A1 W1 → R x W1 → (∀ k, Bk x k → ¬ A1 k ∧ W.heap.size ≤ k) → (∀ k, A1 k → k < W1.heap.size) → pre.length < N → YieldAt F (n - 1) P l (encs x) W1 fun e W' =>
      (e = .returned (.bool true) ∧ J (pre ++ [x]) A1 W' ∧ M.Kw W.heap.size A1 W1 W') ∨ (e = .returned (.bool false) ∧ Jx (pre ++ [x]) A1 W' ∧ M.Kw W.heap.size A1 W1 W')) →
    J [] A W →
    CallsIn F n P g (#[.func (.yield l) #[] #[]] ++ lb) W fun e W' => (∃ v, e = .returned v) ∧ ((∃ xs A', S xs ∧ J xs A' W' ∧ ∀ k, A' k → k < W'.heap.size) ∨ (∃ pre A', Sp pre ∧ Jx pre A' W'))

/-- How a round's body may be left. -/
def M.postK {α : Type} (B : Nat) (A : Nat → Prop) (I : List α → (Nat → Prop) → World → Prop) (Ix : Code → List α → (Nat → Prop) → World → Prop) (xs : List α) (W : World) : Exit → Act → World → Prop
  | .normal, _, W' => M.Kw B A W W' ∧ I xs A W'
  | .ret, _, W' => M.Kw B A W W' ∧ Ix .ret xs A W'
  | .exit id, _, W' => M.Kw B A W W' ∧ Ix (.exit id) xs A W'
  | .goto t, _, W' => M.Kw B A W W' ∧ Ix (.goto t) xs A W'
  | .panic _, _, _ => False
  | .outgrown, _, _ => False

set_option maxHeartbeats 1000000 in
/-- The law for the caller. -/
theorem M.rangeK {F : Fence} {n : Nat} {P : Program} {α : Type} {g : Operand} {ps : Array Tmp} {assign body : Code} {Q : Exit → Act → World → Prop} {a : Act} {w : World}
    (hro : F.round = none) (h1 : 1 ≤ n) {gf : Nat} {lb : Array Value} (hg : a.eval g = .func (.func gf) #[] lb) (hFg : F.fn gf) (eg : ∀ args w, (callFunc gf args).run P w = .ok (.enter gf args) w)
    {encs : α → Array Value} {R : α → World → Prop} {Bk : α → Nat → Prop} {Bx : (Nat → Prop) → World → Prop} {S Sp : List α → Prop} {N : Nat}
    (hseq : M.SeqK F (n - 1) P gf lb encs R Bk Bx S Sp N) (hRput : ∀ x W l o, W.heap[l]? = some o → o.isCells = false → ∀ o', R x W → R x (W.putObj l o')) (hps : ∀ x, (encs x).size = ps.size)
    (A0 : Nat → Prop) (hA0 : ∀ k, A0 k → k < w.heap.size) (hBx : ∀ o o', Bx A0 ((w.alloc o).alloc o'))
    (I : List α → (Nat → Prop) → World → Prop) (Ix : Code → List α → (Nat → Prop) → World → Prop) (hI : M.Ab I) (hIx : ∀ c, M.Ab (Ix c)) (h0 : I [] A0 w) (a₁ : α → Act)
    (hassign : ∀ (l : Nat) (x : α) (W : World) (K : Act → World → Prop), K (a₁ x) W →
      assign.wpIn (F.inRound l) (n - 1 - 1) P (Exit.then K (fun _ _ _ => False)) { tmps := (ps.zip (encs x)).foldl (fun t (p, v) => t.setIfInBounds p v) a.tmps, defers := [] } W)
    (hbody : ∀ (l : Nat) (pre : List α) (x : α) (A : Nat → Prop) (W : World), I pre A W → R x W → (∀ k, Bk x k → ¬ A k ∧ w.heap.size ≤ k) → (∀ k, A k → k < W.heap.size) → pre.length < N → body.wpIn (F.inRound l) (n - 1 - 1) P (M.postK (w.heap.size + 2) A I Ix (pre ++ [x]) W) (a₁ x) W)
    (hdone : ∀ (D : Nat) (xs : List α) (A : Nat → Prop) (W : World), A D → S xs → I xs A W → (∀ k, A k → k < W.heap.size) → W.heap[D]? = some (.deferred (some [])) → Q .normal { a with defers := { target := .collected D, args := #[] } :: a.defers } W)
    (hstop : ∀ (D : Nat) (c : Code) (pre : List α) (A : Nat → Prop) (W : World), A D → Sp pre → Ix c pre A W → W.heap[D]? = some (.deferred (some [])) → c.wpIn F n P Q { a with defers := { target := .collected D, args := #[] } :: a.defers } W)
    (hBkn : ∀ x W k, R x W → Bk x k → ∃ o : Obj, W.heap[k]? = some o ∧ o.isCells = true) :
    (Code.rangeFunc g ps assign body).wpIn F n P Q a w := by
  refine wpIn_rangeFunc ?_
  intro fn hfn
  rw [hro]
  obtain ⟨rec, hrec⟩ : ∃ rec : LoopState → Option Code → Loop, rec = fun st pe => { state := st, pending := pe, fn, tmps := a.tmps, params := ps, assign, body, defers := w.heap.size } := ⟨_, rfl⟩
  obtain ⟨b, hb⟩ : ∃ b, w.heap.size = b := ⟨_, rfl⟩
  obtain ⟨V, hV⟩ : ∃ V, (w.alloc (.deferred (some []))).alloc (.loop (rec .ready none)) = V := ⟨_, rfl⟩
  have hVs : V.heap.size = b + 2 := by rw [← hV]; simp [hb]
  have hVD : V.heap[b]? = some (.deferred (some [])) := by
    rw [← hV, ← hb]; exact (Below.heap_alloc _ _ _ (by simp)).trans (World.alloc_heap_new w _)
  have hVl : V.heap[b + 1]? = some (.loop (rec .ready none)) := by
    rw [← hV, ← hb]; have := World.alloc_heap_new (w.alloc (.deferred (some []))) (.loop (rec .ready none)); rwa [World.size_alloc] at this
  have nb : ∀ A : Nat → Prop, M.own A b b := fun A => .inr (.inl rfl)
  have nl : ∀ A : Nat → Prop, M.own A b (b + 1) := fun A => .inr (.inr rfl)
  -- the state between two rounds: the record is ready, both blocks are not the iterator's
  let J : List α → (Nat → Prop) → World → Prop := fun pre A W => I pre (M.own A b) W ∧ W.heap[b]? = some (.deferred (some [])) ∧ W.heap[b + 1]? = some (.loop (rec .ready none)) ∧ ¬ A b ∧ ¬ A (b + 1) ∧ b + 1 < W.heap.size
  let Jx : List α → (Nat → Prop) → World → Prop := fun pre A W => ∃ c, Ix c pre (M.own A b) W ∧ W.heap[b]? = some (.deferred (some [])) ∧ W.heap[b + 1]? = some (.loop (rec .done (some c))) ∧ ¬ A b ∧ ¬ A (b + 1) ∧ b + 1 < W.heap.size
  have keep : ∀ {A A' : Nat → Prop} {X Y : World} {k : Nat}, M.Al A X A' Y → k < X.heap.size → ¬ A k → Y.heap[k]? = X.heap[k]? ∧ ¬ A' k := fun h hk hn =>
    ⟨h.block _ hk hn, fun h' => by rcases h.new _ h' with h2 | h2; exact hn h2; omega⟩
  have hJ : M.Ab J := fun s A X A' Y ⟨hi, hd, hl, na, na1, hs⟩ h => by
    have k0 := keep h (by omega) na
    have k1 := keep h hs na1
    exact ⟨hI _ _ _ _ _ hi (M.own_mono h), k0.1.trans hd, k1.1.trans hl, k0.2, k1.2, Nat.lt_of_lt_of_le hs h.size⟩
  have hJx : M.Ab Jx := fun s A X A' Y ⟨c, hi, hd, hl, na, na1, hs⟩ h => by
    have k0 := keep h (by omega) na
    have k1 := keep h hs na1
    exact ⟨c, hIx c _ _ _ _ _ hi (M.own_mono h), k0.1.trans hd, k1.1.trans hl, k0.2, k1.2, Nat.lt_of_lt_of_le hs h.size⟩
  have hI1 : I [] (M.own A0 b) V := by
    refine hI _ _ _ _ _ h0 (M.Al.mark (W' := V) ?_ (fun k hk => .inl hk) ?_)
    · rw [← hV]; exact (M.Al.alloc A0 w _).trans (M.Al.alloc A0 _ _)
    · rintro k (hk | rfl | rfl)
      · exact .inl hk
      · right; omega
      · right; omega
  refine ⟨b + 1, [{ target := .collected b, args := #[] }], V, { target := .fn (.func gf) lb, args := #[.func (.yield (b + 1)) #[] #[]] }, V, gf,
    #[.func (.yield (b + 1)) #[] #[]] ++ lb, V, ?_, ?_, ?_, ?_, fun _ => h1, ?_⟩
  · rw [← hV, hrec, ← hb]; exact run_enterLoop_outer _ _ _ _ _
  · simp only [resolve, hg]
    simp [go_sem]
  · intro f' hf'; simp [Target.leads] at hf'; subst hf'; exact hFg
  · simp [invoke, go_sem, eg]
  · refine (hseq (b + 1) J Jx A0 V (by rw [← hV]; exact hBx _ _) (fun k hk => by have := hA0 k hk; omega) hJ hJx ?_ ⟨hI1, hVD, hVl, fun h => by have := hA0 _ h; omega, fun h => by have := hA0 _ h; omega, by omega⟩).mono ?_
    · rintro pre x A1 X ⟨hi, hd, hl, na, na1, hs⟩ hx hxA hlt hlen
      have hy := run_yield (P := P) (args := encs x) hl (by rw [hrec]; exact hps x)
      rw [hrec] at hy
      refine ⟨fn, _, assign, body, hy, roundIn_of_wpIn hfn (hassign _ x X _ ⟨_, run_beginRound hl (by rw [hrec]), ?_⟩)⟩
      obtain ⟨Y, hY⟩ : ∃ Y, X.putObj (b + 1) (.loop { rec .ready none with state := .busy }) = Y := ⟨_, rfl⟩
      rw [hY]
      have hYl : Y.heap[b + 1]? = some (.loop { rec .ready none with state := .busy }) := by rw [← hY]; exact World.putObj_heap_same hs
      have hYd : Y.heap[b]? = some (.deferred (some [])) := by rw [← hY]; exact (World.putObj_heap_other (by omega)).trans hd
      have hYs : Y.heap.size = X.heap.size := by rw [← hY]; simp [World.putObj]
      have hYi : I pre (M.own A1 b) Y := by rw [← hY]; exact hI _ _ _ _ _ hi (M.Al.put X _ (nl A1))
      have hXY : M.Kq A1 X Y := ⟨by omega, fun k hk => by rw [← hY]; exact World.putObj_heap_other (fun e => na1 (e ▸ hk))⟩
      have hbk : ∀ k, Bk x k → ¬ M.own A1 b k ∧ w.heap.size ≤ k := by
        intro k hk
        refine ⟨fun h2 => ?_, by have := (hxA k hk).2; omega⟩
        obtain ⟨o, ho, hc⟩ := hBkn x X k hx hk
        rcases h2 with h2 | rfl | rfl
        · exact (hxA k hk).1 h2
        · rw [hd] at ho; cases ho; cases hc
        · rw [hl] at ho; cases ho; cases hc
      refine wpIn_mono (hbody _ pre x (M.own A1 b) Y hYi (by rw [← hY]; exact hRput x X _ _ hl rfl _ hx) hbk (by rintro k (hk | rfl | rfl); have := hlt k hk; omega; omega; omega) hlen) ?_
      have fin : ∀ (jump : Option Code) (Z : World), M.Kw (w.heap.size + 2) (M.own A1 b) Y Z →
          (Instr.endRound (b + 1) jump).run P Z = .ok (.bool jump.isNone) (Z.putObj (b + 1) (.loop (rec (if jump.isNone then .ready else .done) jump))) ∧
          (Z.putObj (b + 1) (.loop (rec (if jump.isNone then .ready else .done) jump))).heap[b]? = some (.deferred (some [])) ∧
          (Z.putObj (b + 1) (.loop (rec (if jump.isNone then .ready else .done) jump))).heap[b + 1]? = some (.loop (rec (if jump.isNone then .ready else .done) jump)) ∧
          b + 1 < (Z.putObj (b + 1) (.loop (rec (if jump.isNone then .ready else .done) jump))).heap.size ∧
          M.Kw V.heap.size A1 X (Z.putObj (b + 1) (.loop (rec (if jump.isNone then .ready else .done) jump))) := fun jump Z hk => by
        have hl3 := (hk.same _ (.inl (nl A1))).trans hYl
        have hd3 := (hk.same _ (.inl (nb A1))).trans hYd
        have hs3 : b + 1 < Z.heap.size := (Array.getElem?_eq_some_iff.1 hl3).1
        have hsz := hk.size
        have := run_endRound (P := P) jump hl3
        rw [hrec] at this ⊢
        refine ⟨this, (World.putObj_heap_other (by omega)).trans hd3, World.putObj_heap_same hs3, by simpa [World.putObj] using hs3, ⟨by simp [World.putObj]; omega, fun k hk' => ?_⟩⟩
        rcases hk' with hk' | ⟨hk1, hk2⟩
        · exact ((World.putObj_heap_other (fun e : k = b + 1 => na1 (e ▸ hk'))).trans (hk.same k (.inl (.inl hk')))).trans (hXY.same k hk')
        · refine ((World.putObj_heap_other (show k ≠ b + 1 by omega)).trans (hk.same k (.inr ⟨by omega, by omega⟩))).trans ?_
          rw [← hY]
          exact World.putObj_heap_other (by omega)
      rintro e a3 Z hp
      cases e with
      | normal =>
        obtain ⟨hk, hi3⟩ := hp
        obtain ⟨hr, hd4, hl4, hs4, hk4⟩ := fin none Z hk
        exact ⟨_, _, hr, .inl ⟨rfl, ⟨hI _ _ _ _ _ hi3 (M.Al.put Z _ (nl A1)), hd4, hl4, na, na1, hs4⟩, hk4⟩⟩
      | ret =>
        obtain ⟨hk, hi3⟩ := hp
        obtain ⟨hr, hd4, hl4, hs4, hk4⟩ := fin (some .ret) Z hk
        exact ⟨_, _, hr, .inr ⟨rfl, ⟨.ret, hIx _ _ _ _ _ _ hi3 (M.Al.put Z _ (nl A1)), hd4, hl4, na, na1, hs4⟩, hk4⟩⟩
      | exit id =>
        obtain ⟨hk, hi3⟩ := hp
        obtain ⟨hr, hd4, hl4, hs4, hk4⟩ := fin (some (.exit id)) Z hk
        exact ⟨_, _, hr, .inr ⟨rfl, ⟨.exit id, hIx _ _ _ _ _ _ hi3 (M.Al.put Z _ (nl A1)), hd4, hl4, na, na1, hs4⟩, hk4⟩⟩
      | goto t =>
        obtain ⟨hk, hi3⟩ := hp
        obtain ⟨hr, hd4, hl4, hs4, hk4⟩ := fin (some (.goto t)) Z hk
        exact ⟨_, _, hr, .inr ⟨rfl, ⟨.goto t, hIx _ _ _ _ _ _ hi3 (M.Al.put Z _ (nl A1)), hd4, hl4, na, na1, hs4⟩, hk4⟩⟩
      | panic ch => exact hp.elim
      | outgrown => exact hp.elim
    · rintro e X ⟨⟨v, rfl⟩, (⟨xs, A', hS, ⟨hi, hd, hl, na, na1, hs⟩, hlt⟩ | ⟨pre, A', hSp, c, hi, hd, hl, na, na1, hs⟩)⟩
      · exact ⟨none, _, by have := run_endLoop (P := P) hl (by rw [hrec]; simp); rw [hrec] at this; exact this, hdone b xs (M.own A' b) _ (nb A') hS (hI _ _ _ _ _ hi (M.Al.put X _ (nl A')))
          (by rintro k (hk | rfl | rfl) <;> simp only [World.putObj, Array.size_setIfInBounds] <;> first | exact hlt k hk | omega) ((World.putObj_heap_other (by omega)).trans hd)⟩
      · exact ⟨some c, _, by have := run_endLoop (P := P) hl (by rw [hrec]; simp); rw [hrec] at this; exact this, hstop b c pre (M.own A' b) _ (nb A') hSp (hIx c _ _ _ _ _ hi (M.Al.put X _ (nl A'))) ((World.putObj_heap_other (by omega)).trans hd)⟩
end Go.Proofs.YthnklabdjaiplaaDoor
