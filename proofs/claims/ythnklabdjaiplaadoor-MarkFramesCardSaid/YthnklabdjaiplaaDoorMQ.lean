/- A range over a function whose iterator keeps memory of its own (cells) and hands out memory (slices): what each side promises, and the law for the caller. The blocks that are foreign to the caller ('A') are named; the iterator turns no other ones, and a round turns none of these. -/
import Derived.RangeFuncNested
import Derived.RangeFuncLeaves
import Derived.RangeFuncCalls
namespace Go.Proofs.YthnklabdjaiplaaDoor
open Go.RowKit

/-- An iterator's step: only foreign blocks turn; new blocks may come, and may be foreign. -/
structure M.Al (A : Nat → Prop) (W : World) (A' : Nat → Prop) (W' : World) : Prop where
  os : W'.os = W.os
  tape : W'.tape = W.tape
  output : W'.output = W.output
  size : W.heap.size ≤ W'.heap.size
  mono : ∀ k, A k → A' k
  new : ∀ k, A' k → A k ∨ W.heap.size ≤ k
  lt : ∀ k, A' k → A k ∨ k < W'.heap.size
  block : ∀ k, k < W.heap.size → ¬ A k → W'.heap[k]? = W.heap[k]?

theorem M.Al.refl (A : Nat → Prop) (W : World) : M.Al A W A W := ⟨rfl, rfl, rfl, Nat.le_refl _, fun _ h => h, fun _ h => .inl h, fun _ h => .inl h, fun _ _ _ => rfl⟩

theorem M.Al.trans {A B C : Nat → Prop} {U V W : World} (h : M.Al A U B V) (k : M.Al B V C W) : M.Al A U C W where
  os := k.os.trans h.os
  tape := k.tape.trans h.tape
  output := k.output.trans h.output
  size := Nat.le_trans h.size k.size
  mono i hi := k.mono i (h.mono i hi)
  new i hi := by
    rcases k.new i hi with h1 | h1
    · exact h.new i h1
    · exact .inr (Nat.le_trans h.size h1)
  lt i hi := by
    rcases k.lt i hi with h1 | h1
    · rcases h.lt i h1 with h2 | h2
      · exact .inl h2
      · exact .inr (Nat.lt_of_lt_of_le h2 k.size)
    · exact .inr h1
  block i hi hn := by
    refine (k.block i (Nat.lt_of_lt_of_le hi h.size) (fun hb => ?_)).trans (h.block i hi hn)
    rcases h.new i hb with h1 | h1
    · exact hn h1
    · omega

/-- A new block that is no one's yet. -/
theorem M.Al.alloc (A : Nat → Prop) (W : World) (o : Obj) : M.Al A W A (W.alloc o) :=
  ⟨rfl, rfl, rfl, by simp, fun _ h => h, fun _ h => .inl h, fun _ h => .inl h, fun k hk _ => Below.heap_alloc _ _ _ hk⟩

/-- The last block becomes foreign, or whichever new ones. -/
theorem M.Al.mark {A A' : Nat → Prop} {W W' : World} (h : M.Al A W A W') (hm : ∀ k, A k → A' k) (hn : ∀ k, A' k → A k ∨ (W.heap.size ≤ k ∧ k < W'.heap.size)) : M.Al A W A' W' :=
  ⟨h.os, h.tape, h.output, h.size, hm, fun k hk => (hn k hk).imp id (·.1), fun k hk => (hn k hk).imp id (·.2), h.block⟩

/-- A foreign block is turned. -/
theorem M.Al.put {A : Nat → Prop} (W : World) {l : Nat} (o : Obj) (hl : A l) : M.Al A W A (W.putObj l o) where
  os := rfl
  tape := rfl
  output := rfl
  size := by simp [World.putObj]
  mono _ h := h
  new _ h := .inl h
  lt _ h := .inl h
  block k hk hn := World.putObj_heap_other (fun e => hn (e ▸ hl))

theorem M.Al.set {A : Nat → Prop} (W : World) {p : Addr} (u : Value) (hl : A p.block) : M.Al A W A (W.setCell p u) where
  os := rfl
  tape := rfl
  output := rfl
  size := by simp [World.setCell]
  mono _ h := h
  new _ h := .inl h
  lt _ h := .inl h
  block k hk hn := Below.heap_setCell _ _ _ _ (fun e => hn (e ▸ hl))

theorem M.Al.below {A A' : Nat → Prop} {W W' : World} {n : Nat} (h : M.Al A W A' W') (hn : ∀ k, A k → n ≤ k) (hs : n ≤ W.heap.size) : Below n W W' :=
  ⟨h.os, h.tape, h.output, h.size, fun k hk => h.block k (by omega) (fun ha => by have := hn k ha; omega)⟩

/-- What a round keeps: the foreign blocks. -/
structure M.Kq (A : Nat → Prop) (W W' : World) : Prop where
  size : W.heap.size ≤ W'.heap.size
  same : ∀ k, A k → W'.heap[k]? = W.heap[k]?

theorem M.Kq.refl (A : Nat → Prop) (W : World) : M.Kq A W W := ⟨Nat.le_refl _, fun _ _ => rfl⟩
theorem M.Kq.trans {A : Nat → Prop} {U V W : World} (h : M.Kq A U V) (k : M.Kq A V W) : M.Kq A U W :=
  ⟨Nat.le_trans h.size k.size, fun i hi => (k.same i hi).trans (h.same i hi)⟩
theorem M.Kq.of_below {A : Nat → Prop} {W W' : World} {n : Nat} (h : Below n W W') (hA : ∀ k, A k → k < n) : M.Kq A W W' := ⟨h.size, fun k hk => h.block k (hA k hk)⟩
theorem M.Kq.weak {A B : Nat → Prop} {W W' : World} (h : M.Kq A W W') (hB : ∀ k, B k → A k) : M.Kq B W W' := ⟨h.size, fun k hk => h.same k (hB k hk)⟩
theorem M.Kq.alloc {A : Nat → Prop} (W : World) (o : Obj) (hA : ∀ k, A k → k < W.heap.size) : M.Kq A W (W.alloc o) := ⟨by simp, fun k hk => Below.heap_alloc _ _ _ (hA k hk)⟩
theorem M.Kq.set {A : Nat → Prop} (W : World) {p : Addr} (u : Value) (hl : ¬ A p.block) : M.Kq A W (W.setCell p u) := ⟨by simp [World.setCell], fun k hk => Below.heap_setCell _ _ _ _ (fun e => hl (e ▸ hk))⟩
theorem M.Kq.grown {A : Nat → Prop} {W W' : World} {row : Option Nat} (h : W.grownBy W' row) (hA : ∀ k, A k → k < W.heap.size) (hr : ∀ k, row = some k → ¬ A k) : M.Kq A W W' :=
  ⟨h.size, fun k hk => h.block k (hA k hk) (fun e => hr k e.symm hk)⟩
theorem M.Kq.cell {A : Nat → Prop} {W W' : World} (h : M.Kq A W W') {b o : Nat} (hb : A b) : W'.cell? ⟨b, o, none⟩ = W.cell? ⟨b, o, none⟩ := World.cell?_of_block (h.same b hb)

/-- The caller's word: it minds no step of an iterator. -/
def M.Ab {β : Type} (J : β → (Nat → Prop) → World → Prop) : Prop := ∀ s A W A' W', J s A W → M.Al A W A' W' → J s A' W'

/-- The iterator's contract. 'R x W': the memory of what it hands out; 'Bk x': its blocks; 'Bx': what the iterator itself reads. -/
def M.Seq {α : Type} (F : Fence) (n : Nat) (P : Program) (g : Nat) (lb : Array Value) (encs : α → Array Value) (R : α → World → Prop) (Bk : α → Nat → Prop) (Bx : (Nat → Prop) → World → Prop) (S Sp : List α → Prop) (N : Nat) : Prop :=
  ∀ (l : Nat) (J Jx : List α → (Nat → Prop) → World → Prop) (A : Nat → Prop) (W : World), Bx A W → (∀ k, A k → k < W.heap.size) → M.Ab J → M.Ab Jx →
    (∀ pre x A1 W1, J pre A1 W1 → R x W1 → (∀ k, Bk x k → ¬ A1 k ∧ W.heap.size ≤ k) → (∀ k, A1 k → k < W1.heap.size) → pre.length < N → YieldAt F (n - 1) P l (encs x) W1 fun e W' =>
      (e = .returned (.bool true) ∧ J (pre ++ [x]) A1 W' ∧ M.Kq A1 W1 W') ∨ (e = .returned (.bool false) ∧ Jx (pre ++ [x]) A1 W' ∧ M.Kq A1 W1 W')) →
    J [] A W →
    CallsIn F n P g (#[.func (.yield l) #[] #[]] ++ lb) W fun e W' => (∃ v, e = .returned v) ∧ ((∃ xs A', S xs ∧ J xs A' W' ∧ ∀ k, A' k → k < W'.heap.size) ∨ (∃ pre A', Sp pre ∧ Jx pre A' W'))

/-- How a round's body may be left. -/
def M.post {α : Type} (A : Nat → Prop) (I : List α → (Nat → Prop) → World → Prop) (Ix : Code → List α → (Nat → Prop) → World → Prop) (xs : List α) (W : World) : Exit → Act → World → Prop
  | .normal, _, W' => M.Kq A W W' ∧ I xs A W'
  | .ret, _, W' => M.Kq A W W' ∧ Ix .ret xs A W'
  | .exit id, _, W' => M.Kq A W W' ∧ Ix (.exit id) xs A W'
  | .goto t, _, W' => M.Kq A W W' ∧ Ix (.goto t) xs A W'
  | .panic _, _, _ => False
  | .outgrown, _, _ => False

/-- The loop's own two blocks beside the foreign ones. -/
def M.own (A : Nat → Prop) (b : Nat) (k : Nat) : Prop := A k ∨ k = b ∨ k = b + 1

theorem M.own_mono {A A' : Nat → Prop} {W W' : World} {b : Nat} (h : M.Al A W A' W') : M.Al (M.own A b) W (M.own A' b) W' where
  os := h.os
  tape := h.tape
  output := h.output
  size := h.size
  mono k hk := hk.imp (h.mono k) id
  new k hk := by
    rcases hk with h1 | h1
    · exact (h.new k h1).imp .inl id
    · exact .inl (.inr h1)
  lt k hk := by
    rcases hk with h1 | h1
    · exact (h.lt k h1).imp .inl id
    · exact .inl (.inr h1)
  block k hk hn := h.block k hk (fun ha => hn (.inl ha))

set_option maxHeartbeats 1000000 in
/-- The law for the caller. -/
theorem M.range {F : Fence} {n : Nat} {P : Program} {α : Type} {g : Operand} {ps : Array Tmp} {assign body : Code} {Q : Exit → Act → World → Prop} {a : Act} {w : World}
    (hro : F.round = none) (h1 : 1 ≤ n) {gf : Nat} {lb : Array Value} (hg : a.eval g = .func (.func gf) #[] lb) (hFg : F.fn gf) (eg : ∀ args w, (callFunc gf args).run P w = .ok (.enter gf args) w)
    {encs : α → Array Value} {R : α → World → Prop} {Bk : α → Nat → Prop} {Bx : (Nat → Prop) → World → Prop} {S Sp : List α → Prop} {N : Nat}
    (hseq : M.Seq F (n - 1) P gf lb encs R Bk Bx S Sp N) (hRput : ∀ x W l o, W.heap[l]? = some o → o.isCells = false → ∀ o', R x W → R x (W.putObj l o')) (hps : ∀ x, (encs x).size = ps.size)
    (A0 : Nat → Prop) (hA0 : ∀ k, A0 k → k < w.heap.size) (hBx : ∀ o o', Bx A0 ((w.alloc o).alloc o'))
    (I : List α → (Nat → Prop) → World → Prop) (Ix : Code → List α → (Nat → Prop) → World → Prop) (hI : M.Ab I) (hIx : ∀ c, M.Ab (Ix c)) (h0 : I [] A0 w) (a₁ : α → Act)
    (hassign : ∀ (l : Nat) (x : α) (W : World) (K : Act → World → Prop), K (a₁ x) W →
      assign.wpIn (F.inRound l) (n - 1 - 1) P (Exit.then K (fun _ _ _ => False)) { tmps := (ps.zip (encs x)).foldl (fun t (p, v) => t.setIfInBounds p v) a.tmps, defers := [] } W)
    (hbody : ∀ (l : Nat) (pre : List α) (x : α) (A : Nat → Prop) (W : World), I pre A W → R x W → (∀ k, Bk x k → ¬ A k ∧ w.heap.size ≤ k) → (∀ k, A k → k < W.heap.size) → pre.length < N → body.wpIn (F.inRound l) (n - 1 - 1) P (M.post A I Ix (pre ++ [x]) W) (a₁ x) W)
    (hdone : ∀ (D : Nat) (xs : List α) (A : Nat → Prop) (W : World), A D → S xs → I xs A W → (∀ k, A k → k < W.heap.size) → W.heap[D]? = some (.deferred (some [])) → Q .normal { a with defers := { target := .collected D, args := #[] } :: a.defers } W)
    (hstop : ∀ (D : Nat) (c : Code) (pre : List α) (A : Nat → Prop) (W : World), A D → Sp pre → Ix c pre A W → W.heap[D]? = some (.deferred (some [])) → c.wpIn F n P Q { a with defers := { target := .collected D, args := #[] } :: a.defers } W)
    (hBkn : ∀ x W k, R x W → Bk x k → ∃ o : Obj, W.heap[k]? = some o ∧ o.isCells = true) :
    (Code.rangeFunc g ps assign body).wpIn F n P Q a w := by
  refine wpIn_rangeFunc ?_
  intro fn hfn
  rw [hro]
  obtain ⟨rec, hrec⟩ : ∃ rec : LoopState → Option Code → Loop, rec = fun st pe => { state := st, pending := pe, fn, tmps := a.tmps, params := ps, assign, body, defers := w.heap.size } := ⟨_, rfl⟩
  obtain ⟨b, hb⟩ : ∃ b, w.heap.size = b := ⟨_, rfl⟩
  obtain ⟨V, hV⟩ : ∃ V, (w.alloc (.deferred (some []))).alloc (.loop (rec .ready none)) = V := ⟨_, rfl⟩
  have hVs : V.heap.size = b + 2 := by rw [← hV]; simp [hb]
  have hVD : V.heap[b]? = some (.deferred (some [])) := by
    rw [← hV, ← hb]; exact (Below.heap_alloc _ _ _ (by simp)).trans (World.alloc_heap_new w _)
  have hVl : V.heap[b + 1]? = some (.loop (rec .ready none)) := by
    rw [← hV, ← hb]; have := World.alloc_heap_new (w.alloc (.deferred (some []))) (.loop (rec .ready none)); rwa [World.size_alloc] at this
  have nb : ∀ A : Nat → Prop, M.own A b b := fun A => .inr (.inl rfl)
  have nl : ∀ A : Nat → Prop, M.own A b (b + 1) := fun A => .inr (.inr rfl)
  -- the state between two rounds: the record is ready, both blocks are not the iterator's
  let J : List α → (Nat → Prop) → World → Prop := fun pre A W => I pre (M.own A b) W ∧ W.heap[b]? = some (.deferred (some [])) ∧ W.heap[b + 1]? = some (.loop (rec .ready none)) ∧ ¬ A b ∧ ¬ A (b + 1) ∧ b + 1 < W.heap.size
  let Jx : List α → (Nat → Prop) → World → Prop := fun pre A W => ∃ c, Ix c pre (M.own A b) W ∧ W.heap[b]? = some (.deferred (some [])) ∧ W.heap[b + 1]? = some (.loop (rec .done (some c))) ∧ ¬ A b ∧ ¬ A (b + 1) ∧ b + 1 < W.heap.size
  have keep : ∀ {A A' : Nat → Prop} {X Y : World} {k : Nat}, M.Al A X A' Y → k < X.heap.size → ¬ A k → Y.heap[k]? = X.heap[k]? ∧ ¬ A' k := fun h hk hn =>
    ⟨h.block _ hk hn, fun h' => by rcases h.new _ h' with h2 | h2; exact hn h2; omega⟩
  have hJ : M.Ab J := fun s A X A' Y ⟨hi, hd, hl, na, na1, hs⟩ h => by
    have k0 := keep h (by omega) na
    have k1 := keep h hs na1
    exact ⟨hI _ _ _ _ _ hi (M.own_mono h), k0.1.trans hd, k1.1.trans hl, k0.2, k1.2, Nat.lt_of_lt_of_le hs h.size⟩
  have hJx : M.Ab Jx := fun s A X A' Y ⟨c, hi, hd, hl, na, na1, hs⟩ h => by
    have k0 := keep h (by omega) na
    have k1 := keep h hs na1
    exact ⟨c, hIx c _ _ _ _ _ hi (M.own_mono h), k0.1.trans hd, k1.1.trans hl, k0.2, k1.2, Nat.lt_of_lt_of_le hs h.size⟩
  have hI1 : I [] (M.own A0 b) V := by
    refine hI _ _ _ _ _ h0 (M.Al.mark (W' := V) ?_ (fun k hk => .inl hk) ?_)
    · rw [← hV]; exact (M.Al.alloc A0 w _).trans (M.Al.alloc A0 _ _)
    · rintro k (hk | rfl | rfl)
      · exact .inl hk
      · right; omega
      · right; omega
  refine ⟨b + 1, [{ target := .collected b, args := #[] }], V, { target := .fn (.func gf) lb, args := #[.func (.yield (b + 1)) #[] #[]] }, V, gf,
    #[.func (.yield (b + 1)) #[] #[]] ++ lb, V, ?_, ?_, ?_, ?_, fun _ => h1, ?_⟩
  · rw [← hV, hrec, ← hb]; exact run_enterLoop_outer _ _ _ _ _
  · simp only [resolve, hg]
    simp [go_sem]
  · intro f' hf'; simp [Target.leads] at hf'; subst hf'; exact hFg
  · simp [invoke, go_sem, eg]
  · refine (hseq (b + 1) J Jx A0 V (by rw [← hV]; exact hBx _ _) (fun k hk => by have := hA0 k hk; omega) hJ hJx ?_ ⟨hI1, hVD, hVl, fun h => by have := hA0 _ h; omega, fun h => by have := hA0 _ h; omega, by omega⟩).mono ?_
    · rintro pre x A1 X ⟨hi, hd, hl, na, na1, hs⟩ hx hxA hlt hlen
      have hy := run_yield (P := P) (args := encs x) hl (by rw [hrec]; exact hps x)
      rw [hrec] at hy
      refine ⟨fn, _, assign, body, hy, roundIn_of_wpIn hfn (hassign _ x X _ ⟨_, run_beginRound hl (by rw [hrec]), ?_⟩)⟩
      obtain ⟨Y, hY⟩ : ∃ Y, X.putObj (b + 1) (.loop { rec .ready none with state := .busy }) = Y := ⟨_, rfl⟩
      rw [hY]
      have hYl : Y.heap[b + 1]? = some (.loop { rec .ready none with state := .busy }) := by rw [← hY]; exact World.putObj_heap_same hs
      have hYd : Y.heap[b]? = some (.deferred (some [])) := by rw [← hY]; exact (World.putObj_heap_other (by omega)).trans hd
      have hYs : Y.heap.size = X.heap.size := by rw [← hY]; simp [World.putObj]
      have hYi : I pre (M.own A1 b) Y := by rw [← hY]; exact hI _ _ _ _ _ hi (M.Al.put X _ (nl A1))
      have hXY : M.Kq A1 X Y := ⟨by omega, fun k hk => by rw [← hY]; exact World.putObj_heap_other (fun e => na1 (e ▸ hk))⟩
      have hbk : ∀ k, Bk x k → ¬ M.own A1 b k ∧ w.heap.size ≤ k := by
        intro k hk
        refine ⟨fun h2 => ?_, by have := (hxA k hk).2; omega⟩
        obtain ⟨o, ho, hc⟩ := hBkn x X k hx hk
        rcases h2 with h2 | rfl | rfl
        · exact (hxA k hk).1 h2
        · rw [hd] at ho; cases ho; cases hc
        · rw [hl] at ho; cases ho; cases hc
      refine wpIn_mono (hbody _ pre x (M.own A1 b) Y hYi (by rw [← hY]; exact hRput x X _ _ hl rfl _ hx) hbk (by rintro k (hk | rfl | rfl); have := hlt k hk; omega; omega; omega) hlen) ?_
      have fin : ∀ (jump : Option Code) (Z : World), M.Kq (M.own A1 b) Y Z →
          (Instr.endRound (b + 1) jump).run P Z = .ok (.bool jump.isNone) (Z.putObj (b + 1) (.loop (rec (if jump.isNone then .ready else .done) jump))) ∧
          (Z.putObj (b + 1) (.loop (rec (if jump.isNone then .ready else .done) jump))).heap[b]? = some (.deferred (some [])) ∧
          (Z.putObj (b + 1) (.loop (rec (if jump.isNone then .ready else .done) jump))).heap[b + 1]? = some (.loop (rec (if jump.isNone then .ready else .done) jump)) ∧
          b + 1 < (Z.putObj (b + 1) (.loop (rec (if jump.isNone then .ready else .done) jump))).heap.size ∧
          M.Kq A1 X (Z.putObj (b + 1) (.loop (rec (if jump.isNone then .ready else .done) jump))) := fun jump Z hk => by
        have hl3 := (hk.same _ (nl A1)).trans hYl
        have hd3 := (hk.same _ (nb A1)).trans hYd
        have hs3 : b + 1 < Z.heap.size := (Array.getElem?_eq_some_iff.1 hl3).1
        have := run_endRound (P := P) jump hl3
        rw [hrec] at this ⊢
        exact ⟨this, (World.putObj_heap_other (by omega)).trans hd3, World.putObj_heap_same hs3, by simpa [World.putObj] using hs3,
          hXY.trans ⟨by simpa [World.putObj] using hk.size, fun k hk' => (World.putObj_heap_other (fun e : k = b + 1 => na1 (e ▸ hk'))).trans (hk.same k (.inl hk'))⟩⟩
      rintro e a3 Z hp
      cases e with
      | normal =>
        obtain ⟨hk, hi3⟩ := hp
        obtain ⟨hr, hd4, hl4, hs4, hk4⟩ := fin none Z hk
        exact ⟨_, _, hr, .inl ⟨rfl, ⟨hI _ _ _ _ _ hi3 (M.Al.put Z _ (nl A1)), hd4, hl4, na, na1, hs4⟩, hk4⟩⟩
      | ret =>
        obtain ⟨hk, hi3⟩ := hp
        obtain ⟨hr, hd4, hl4, hs4, hk4⟩ := fin (some .ret) Z hk
        exact ⟨_, _, hr, .inr ⟨rfl, ⟨.ret, hIx _ _ _ _ _ _ hi3 (M.Al.put Z _ (nl A1)), hd4, hl4, na, na1, hs4⟩, hk4⟩⟩
      | exit id =>
        obtain ⟨hk, hi3⟩ := hp
        obtain ⟨hr, hd4, hl4, hs4, hk4⟩ := fin (some (.exit id)) Z hk
        exact ⟨_, _, hr, .inr ⟨rfl, ⟨.exit id, hIx _ _ _ _ _ _ hi3 (M.Al.put Z _ (nl A1)), hd4, hl4, na, na1, hs4⟩, hk4⟩⟩
      | goto t =>
        obtain ⟨hk, hi3⟩ := hp
        obtain ⟨hr, hd4, hl4, hs4, hk4⟩ := fin (some (.goto t)) Z hk
        exact ⟨_, _, hr, .inr ⟨rfl, ⟨.goto t, hIx _ _ _ _ _ _ hi3 (M.Al.put Z _ (nl A1)), hd4, hl4, na, na1, hs4⟩, hk4⟩⟩
      | panic ch => exact hp.elim
      | outgrown => exact hp.elim
    · rintro e X ⟨⟨v, rfl⟩, (⟨xs, A', hS, ⟨hi, hd, hl, na, na1, hs⟩, hlt⟩ | ⟨pre, A', hSp, c, hi, hd, hl, na, na1, hs⟩)⟩
      · exact ⟨none, _, by have := run_endLoop (P := P) hl (by rw [hrec]; simp); rw [hrec] at this; exact this, hdone b xs (M.own A' b) _ (nb A') hS (hI _ _ _ _ _ hi (M.Al.put X _ (nl A')))
          (by rintro k (hk | rfl | rfl) <;> simp only [World.putObj, Array.size_setIfInBounds] <;> first | exact hlt k hk | omega) ((World.putObj_heap_other (by omega)).trans hd)⟩
      · exact ⟨some c, _, by have := run_endLoop (P := P) hl (by rw [hrec]; simp); rw [hrec] at this; exact this, hstop b c pre (M.own A' b) _ (nb A') hSp (hIx c _ _ _ _ _ hi (M.Al.put X _ (nl A'))) ((World.putObj_heap_other (by omega)).trans hd)⟩
end Go.Proofs.YthnklabdjaiplaaDoor
