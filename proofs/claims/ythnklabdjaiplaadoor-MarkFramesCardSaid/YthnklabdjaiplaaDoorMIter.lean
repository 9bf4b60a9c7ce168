/- Package mark: coalitionsOf: what its function value yields. -/
import Derived.Test.YthnklabdjaiplaaDoorMQ
import Derived.Test.YthnklabdjaiplaaDoorMAdv
import Derived.Test.YthnklabdjaiplaaDoorMShf
import Derived.Shelf.Abstract
import Derived.OwnWalkIn
import Derived.TacticsInMore
import Derived.LoopNIn
import Derived.LoopIn
namespace Go.Proofs.YthnklabdjaiplaaDoor
open Go.RowKit Go.Shelf
attribute [local go_sem] Oper.semAt_some

/-- The least number with a property. -/
theorem M.least_ex {P : Nat → Prop} (h : ∃ g, P g) : ∃ g, P g ∧ ∀ k, P k → g ≤ k := by
  obtain ⟨g, hg⟩ := h
  induction g using Nat.strongRecOn with
  | ind g ih =>
    by_cases hs : ∃ k, k < g ∧ P k
    · obtain ⟨k, hk, hp⟩ := hs
      exact ih k hk hp
    · exact ⟨g, hg, fun k hk => Nat.le_of_not_lt fun hl => hs ⟨k, hl, hk⟩⟩
open Classical in
noncomputable def M.least (P : Nat → Prop) : Nat := if h : ∃ g, P g then Classical.choose (M.least_ex h) else 0
theorem M.least_of {P : Nat → Prop} (h : ∃ g, P g) : P (M.least P) := by
  unfold M.least; rw [dif_pos h]; exact (Classical.choose_spec (M.least_ex h)).1
theorem M.least_le {P : Nat → Prop} {g : Nat} (h : P g) : M.least P ≤ g := by
  unfold M.least; rw [dif_pos ⟨g, h⟩]; exact (Classical.choose_spec (M.least_ex ⟨g, h⟩)).2 g h

/-- A coalition that is handed out: its block, room, members. -/
structure M.Cx where
  g : Nat
  cap : Nat
  l : List Nat
def M.toI (l : List Nat) : List Int := l.map (fun x : Nat => (x : Int))
theorem M.toI_len (l : List Nat) : (M.toI l).length = l.length := by unfold M.toI; rw [List.length_map]
def M.encC (x : M.Cx) : Array Value := #[.slice (some ⟨x.g, 0, none⟩) x.l.length x.cap]
def M.RC (x : M.Cx) (W : World) : Prop := RowI W 0 (.slice (some ⟨x.g, 0, none⟩) x.l.length x.cap) (M.toI x.l) ∧ 1 ≤ x.l.length
def M.BkC (x : M.Cx) (k : Nat) : Prop := k = x.g

theorem M.RC.of_block {x : M.Cx} {W W' : World} (h : M.RC x W) (e : W'.heap[x.g]? = W.heap[x.g]?) : M.RC x W' := by
  refine ⟨⟨h.1.1, ?_⟩, h.2⟩
  rcases h.1.2 with ⟨e1, _⟩ | ⟨g, cap, cur, e1, h1, h2, h3⟩
  · cases e1
  · simp only [Value.slice.injEq, Option.some.injEq, Addr.mk.injEq, and_true] at e1
    obtain ⟨rfl, e2, rfl⟩ := e1
    exact .inr ⟨x.g, x.cap, cur, by rw [e2], h1, e.trans h2, h3⟩
theorem M.RC.blk {x : M.Cx} {W : World} (h : M.RC x W) : ∃ cur, W.heap[x.g]? = some (.cells cur 3 (0, 0)) := by
  rcases h.1.2 with ⟨e1, _⟩ | ⟨g, cap, cur, e1, h1, h2, h3⟩
  · cases e1
  · simp only [Value.slice.injEq, Option.some.injEq, Addr.mk.injEq, and_true] at e1
    obtain ⟨rfl, e2, rfl⟩ := e1
    exact ⟨cur, h2⟩
theorem M.RC.cap {x : M.Cx} {W : World} (h : M.RC x W) : x.l.length ≤ x.cap ∧ x.cap ≤ maxLen := by
  rcases h.1.2 with ⟨e1, _⟩ | ⟨g, cap, cur, e1, h1, h2, h3, h4, _⟩
  · cases e1
  · simp only [Value.slice.injEq, Option.some.injEq, Addr.mk.injEq, and_true] at e1
    obtain ⟨rfl, e2, rfl⟩ := e1
    rw [M.toI_len] at h3
    exact ⟨h3, h4⟩
theorem M.RC.rd {x : M.Cx} {W : World} (h : M.RC x W) : RdI W (some ⟨x.g, 0, none⟩) (M.toI x.l) := h.1.rdI
theorem M.RC.lt {x : M.Cx} {W : World} (h : M.RC x W) : x.g < W.heap.size := by
  obtain ⟨cur, hc⟩ := h.blk
  exact (Array.getElem?_eq_some_iff.1 hc).1
theorem M.RC.put (x : M.Cx) (W : World) (l : Nat) (o : Obj) (hl : W.heap[l]? = some o) (ho : o.isCells = false) (o' : Obj) (h : M.RC x W) : M.RC x (W.putObj l o') :=
  h.of_block (World.putObj_heap_other fun e => by
    obtain ⟨cur, hc⟩ := h.blk
    rw [e, hl] at hc
    cases hc
    cases ho)
theorem M.RC.cells (x : M.Cx) (W : World) (k : Nat) (h : M.RC x W) (hk : M.BkC x k) : ∃ o : Obj, W.heap[k]? = some o ∧ o.isCells = true := by
  obtain ⟨cur, hc⟩ := h.blk
  rw [show k = x.g from hk]
  exact ⟨_, hc, rfl⟩

/-- Members are customers. -/
def M.RN (N : Nat) (x : M.Cx) (W : World) : Prop := M.RC x W ∧ M.asc 0 N x.l ∧ x.l.length ≤ 10
theorem M.RN.put (N : Nat) (x : M.Cx) (W : World) (l : Nat) (o : Obj) (hl : W.heap[l]? = some o) (ho : o.isCells = false) (o' : Obj) (h : M.RN N x W) : M.RN N x (W.putObj l o') := ⟨M.RC.put x W l o hl ho o' h.1, h.2⟩
theorem M.RN.cells (N : Nat) (x : M.Cx) (W : World) (k : Nat) (h : M.RN N x W) (hk : M.BkC x k) : ∃ o : Obj, W.heap[k]? = some o ∧ o.isCells = true := M.RC.cells x W k h.1 hk
/-- Members are customers, so many of them. -/
def M.RNk (k N : Nat) (x : M.Cx) (W : World) : Prop := M.RN N x W ∧ x.l.length = k
theorem M.RNk.put (k N : Nat) (x : M.Cx) (W : World) (l : Nat) (o : Obj) (hl : W.heap[l]? = some o) (ho : o.isCells = false) (o' : Obj) (h : M.RNk k N x W) : M.RNk k N x (W.putObj l o') := ⟨M.RN.put N x W l o hl ho o' h.1, h.2⟩
theorem M.RNk.cells (k N : Nat) (x : M.Cx) (W : World) (i : Nat) (h : M.RNk k N x W) (hk : M.BkC x i) : ∃ o : Obj, W.heap[i]? = some o ∧ o.isCells = true := M.RN.cells N x W i h.1 hk
theorem M.asc_lt : ∀ {a b : Nat} {l : List Nat}, M.asc a b l → ∀ i, i ∈ l → i < b
  | _, _, [], _, _, h => by simp at h
  | _, _, x :: l, ⟨_, h2, h3⟩, i, h => by
    rcases List.mem_cons.1 h with rfl | h
    · exact h2
    · exact M.asc_lt h3 i h

/-- What the iterator of one size reads. -/
def M.BxC (bs bc k N : Nat) (A : Nat → Prop) (W : World) : Prop := A bs ∧ A bc ∧ W.cell? ⟨bs, 0, none⟩ = some (.int .i64 (k : Nat)) ∧ W.cell? ⟨bc, 0, none⟩ = some (.int .i64 (N : Nat))

/-- Between two rounds of the iterator. -/
def M.CR (bs bc cB k N : Nat) (J : List M.Cx → (Nat → Prop) → World → Prop) (g : Nat) (p : Value) (wr : World) : Prop :=
  ∃ (j : Nat) (pre : List M.Cx) (A : Nat → Prop), p = .bool (decide (j < (M.combs N k).length)) ∧ g + j = (M.combs N k).length ∧ pre.map (·.l) = (M.combs N k).take j ∧ J pre A wr ∧ A cB ∧ M.BxC bs bc k N A wr ∧
    (∀ i, A i → i < wr.heap.size) ∧ ∀ h : j < (M.combs N k).length, wr.rowIs cB 3 k (M.ic (M.combs N k)[j])

theorem M.comb_facts {N k j : Nat} (h : j < (M.combs N k).length) : (M.combs N k)[j].length = k ∧ ∀ i, i < k → ((M.combs N k)[j]).getD i 0 < N := by
  have hm := M.mem_sub.1 (List.getElem_mem h)
  refine ⟨hm.1, fun i hi => ?_⟩
  have : ∀ (a b : Nat) (l : List Nat), M.asc a b l → ∀ i, i < l.length → l.getD i 0 < b := by
    intro a b l
    induction l generalizing a with
    | nil => intro _ i hi; simp at hi
    | cons x l ih =>
      rintro ⟨_, h2, h3⟩ i hi
      cases i with
      | zero => simpa using h2
      | succ i => simpa using ih _ h3 i (by simpa using hi)
  have := this _ _ _ hm.2 i (by rw [hm.1]; exact hi)
  simpa using this

theorem M.al_grown {A : Nat → Prop} {W W' : World} {c : Nat} (h : W.grownBy W' (some c)) (hc : A c) : M.Al A W A W' :=
  ⟨h.os, h.tape, h.output, h.size, fun _ h => h, fun _ h => .inl h, fun _ h => .inl h, fun k hk hn => h.block k hk (fun e => hn (by cases e; exact hc))⟩
theorem M.al_below {A : Nat → Prop} {W W' : World} (h : Below W.heap.size W W') : M.Al A W A W' :=
  ⟨h.os, h.tape, h.output, h.size, fun _ h => h, fun _ h => .inl h, fun _ h => .inl h, fun k hk _ => h.block k hk⟩

theorem M.ic_up (k : Nat) (i : Nat) (hi : i < k) : M.cu (fun _ => .int .i64 0) 0 k 0 i = M.ic (M.up 0 k) i := by
  unfold M.cu M.ic M.up
  rw [if_pos (by omega), List.getD_eq_getElem?_getD, List.getElem?_map, List.getElem?_range hi]
  simp

theorem M.ic_rd {w : World} {c n : Nat} {l : List Nat} (h : w.rowIs c 3 n (M.ic l)) (hn : l.length = n) : RdI w (some ⟨c, 0, none⟩) (M.toI l) := fun k hk => by
  have hk' : k < l.length := by rwa [M.toI_len] at hk
  have e : (M.toI l)[k] = ((l.getD k 0 : Nat) : Int) := by
    rw [List.getD_eq_getElem?_getD, List.getElem?_eq_getElem hk']
    exact List.getElem_map ..
  refine ⟨c, 0, rfl, ?_⟩
  rw [Nat.zero_add, h.cell (i := k) (by omega), e]
  rfl

set_option maxRecDepth 100000 in
set_option maxHeartbeats 4000000 in
theorem coalitionsOf1_seq (n : Nat) (hn : 2 ≤ n) (bs bc k N : Nat) (hk1 : 1 ≤ k) (hk : k ≤ 10) (hN : N ≤ 10) :
    M.Seq Fence.wide n Tryd.prog 86 #[.pointer (some ⟨bs, 0, none⟩), .pointer (some ⟨bc, 0, none⟩)] M.encC (M.RNk k N) M.BkC (M.BxC bs bc k N)
      (fun xs => xs.map (·.l) = M.combs N k) (fun pre => ∃ j, j < (M.combs N k).length ∧ pre.map (·.l) = (M.combs N k).take (j + 1)) 1000 := by
  intro l J Jx A W hBx hA hJ hJx hY h0
  obtain ⟨hAs, hAc, hcs, hcc⟩ := hBx
  have HY := hid hY
  have HJ := hid hJ
  clear hY hJ
  have hlen : (M.combs N k).length ≤ 1000 := by
    have h : ((List.range 11).all fun a => (List.range 11).all fun b => decide ((M.combs a b).length ≤ 1000)) = true := by kernel_rfl
    have := List.all_eq_true.1 (List.all_eq_true.1 h N (by simp; omega)) k (by simp; omega)
    simpa using this
  obtain ⟨cB, hcB⟩ : ∃ cB, W.heap.size = cB := ⟨_, rfl⟩
  have hmk := run_make_row' (P := Tryd.prog) 25 3 (.int .i64 0) 8 Tryd.underlying25 (by kernel_rfl) rfl .i64 .i64 k (by omega) (by omega)
  obtain ⟨W1, hW1⟩ : ∃ W1, W.alloc (.cells (madeCells #[.int .i64 0] k) 3) = W1 := ⟨_, rfl⟩
  have hr1 : W1.rowIs cB 3 k (fun _ => .int .i64 0) := by rw [← hW1, ← hcB]; exact World.rowIs_made W _ k _
  have hs1 : W1.heap.size = cB + 1 := by rw [← hW1]; simp [hcB]
  have hb1 : Below W.heap.size W W1 := by rw [← hW1]; exact (Below.refl _ _).alloc (Nat.le_refl _) _
  have HCU := hid (countUp_any cB 0 k k k 0 (fun _ => .int .i64 0) W1 hr1 (by omega) (by omega) (by omega))
  -- the coalition's own block is the iterator's
  obtain ⟨A1, hA1⟩ : ∃ A1 : Nat → Prop, (fun i => A i ∨ i = cB) = A1 := ⟨_, rfl⟩
  have q1 : A1 cB := by rw [← hA1]; exact .inr rfl
  have q2 : A1 bs ∧ A1 bc := by rw [← hA1]; exact ⟨.inl hAs, .inl hAc⟩
  have q3 : ∀ i, A1 i → i < W1.heap.size := by
    rw [← hA1]; rintro i (hi | rfl)
    · have := hA i hi; omega
    · omega
  have q4 : M.Al A W A1 W1 := (M.al_below hb1).mark (fun i hi => by rw [← hA1]; exact .inl hi) (by
    rw [← hA1]; rintro i (hi | rfl)
    · exact .inl hi
    · right; omega)
  have HJ1 := hid (HJ.out _ _ _ _ _ h0 q4)
  have HQ : Hid (A1 cB ∧ A1 bs ∧ A1 bc ∧ ∀ i, A1 i → i < W1.heap.size) := hid ⟨q1, q2.1, q2.2, q3⟩
  have HNE : Hid (bs ≠ cB ∧ bc ≠ cB) := hid ⟨fun e => by have := hA _ hAs; omega, fun e => by have := hA _ hAc; omega⟩
  have hcs1 := cell_stays hb1 (Nat.le_refl _) hcs
  have hcc1 := cell_stays hb1 (Nat.le_refl _) hcc
  have HH := hid (fun (h : k ≤ N) => M.combs_head hN h)
  have HNO := hid (fun (h : N < k) => M.combs_none h)
  have HCH := hid (M.combs_chain hN hk)
  clear q1 q2 q3 q4 hA1 h0 hr1 hb1 hAs hAc hA
  refine callsIn_of_wp Tryd.func86 rfl trivial ?_ rfl
  simp only [Tryd.ntmps86, List.size_toArray, List.length_cons, List.length_nil, Nat.reduceAdd, Nat.reduceSub, Array.replicate_succ, Array.replicate_zero, List.push_toArray, List.append_toArray, List.nil_append, List.cons_append]
  gi_wp2_with fail
  refine ⟨trivial, ?_⟩
  refine ⟨fun _ => by omega, ?_⟩
  refine (callsIn_wide.2 HCU.out).mono ?_
  rintro e W2 ⟨rfl, hr2, hg2⟩
  have HR2 := hid (hr2.congr (M.ic_up k))
  have HG2 := hid hg2
  have hcs2 : W2.cell? ⟨bs, 0, none⟩ = some (.int .i64 (k : Nat)) := (World.cell?_of_block (hg2.block bs (HQ.out.2.2.2 _ HQ.out.2.1) (fun e => HNE.out.1 (by cases e; rfl)))).trans hcs1
  have hcc2 : W2.cell? ⟨bc, 0, none⟩ = some (.int .i64 (N : Nat)) := (World.cell?_of_block (hg2.block bc (HQ.out.2.2.2 _ HQ.out.2.2.1) (fun e => HNE.out.2 (by cases e; rfl)))).trans hcc1
  have HJ2 := hid (HJ.out _ _ _ _ _ HJ1.out (M.al_grown hg2 HQ.out.1))
  have HQ2 : Hid (∀ i, A1 i → i < W2.heap.size) := hid (fun i hi => Nat.lt_of_lt_of_le (HQ.out.2.2.2 i hi) hg2.size)
  have HD : Hid (decide (k ≤ N) = decide (0 < (M.combs N k).length)) := hid (by
    by_cases h : k ≤ N
    · have h1 := HH.out h
      rw [decide_eq_true (by omega), decide_eq_true]
      cases hc : M.combs N k with
      | nil => rw [hc] at h1; cases h1
      | cons a b => simp
    · rw [HNO.out (by omega), decide_eq_false (by omega)]
      rfl)
  have HI0 : Hid (∀ h : 0 < (M.combs N k).length, W2.rowIs cB 3 k (M.ic (M.combs N k)[0])) := hid (fun h => by
    have hkN : k ≤ N := by
      by_cases hn' : N < k
      · rw [HNO.out hn'] at h; simp at h
      · omega
    have h1 := HH.out hkN
    have e : (M.combs N k)[0] = M.up 0 k := by
      rw [List.head?_eq_getElem?, List.getElem?_eq_getElem h] at h1
      exact Option.some.inj h1
    rw [e]
    exact HR2.out)
  have HQA := hid HQ.out.1
  have HBX : Hid (M.BxC bs bc k N A1 W2) := hid ⟨HQ.out.2.1, HQ.out.2.2.1, hcs2, hcc2⟩
  clear hr2 hg2 HR2 HG2 HQ HJ1 HCU hmk hs1 hcs1 hcc1 hcs hcc
  gi_wp2
  gi_loopw [5] (fun p wr => ∃ g, M.CR bs bc cB k N J g p wr) (fun p wr => M.least fun g => M.CR bs bc cB k N J g p wr)
  case atStart => exact ⟨(M.combs N k).length, 0, [], A1, by rw [HD.out], by omega, by simp, HJ2.out, HQA.out, HBX.out, HQ2.out, HI0.out⟩
  case round =>
    clear HI0 HBX HQ2 HJ2 HD HH HNO hW1 W1 hcs2 hcc2 HQA
    obtain ⟨j, pre, A2, rfl, hg, hpre, hJ2, hcBA, ⟨hAs, hAc, hvs, hvc⟩, hA2, hrow⟩ := M.least_of hrel
    have HLE := hid (fun g p wr' (h : M.CR bs bc cB k N J g p wr') => M.least_le (P := fun g => M.CR bs bc cB k N J g p wr') h)
    obtain ⟨g0, hg0⟩ : ∃ g0, (M.least fun g => M.CR bs bc cB k N J g (.bool (decide (j < (M.combs N k).length))) wr) = g0 := ⟨_, rfl⟩
    rw [hg0] at hg
    have HG0 := hid hg0
    clear hg0
    have HPRE := hid hpre
    have HJ3 := hid hJ2
    have HA2 := hid hA2
    clear hrel hJ2 hpre
    by_cases hlt : j < (M.combs N k).length
    · have hd : decide (j < (M.combs N k).length) = true := decide_eq_true hlt
      have hf := M.comb_facts hlt
      have hasc : M.asc 0 N (M.combs N k)[j] := by have := (M.mem_sub.1 (List.getElem_mem hlt)).2; rwa [Nat.zero_add] at this
      have hrw := hrow hlt
      have hkN : k ≤ N := by
        by_cases hn' : N < k
        · rw [M.combs_none hn'] at hlt; simp at hlt
        · omega
      obtain ⟨L, hL⟩ : ∃ L, (M.combs N k)[j] = L := ⟨_, rfl⟩
      rw [hL] at hf hrw hasc
      have hli : (M.toI L).length = k := by rw [M.toI_len]; exact hf.1
      have HCL := hid (cloneI_any (some ⟨cB, 0, none⟩) k (M.toI L) wr (by omega) (by omega) (M.ic_rd hrw hf.1))
      rw [hli] at HCL
      have hpl : pre.length = j := by
        have := congrArg List.length HPRE.out
        rw [List.length_map, List.length_take] at this
        omega
      have HSN : Hid (∀ x : M.Cx, x.l = L → (pre ++ [x]).map (·.l) = (M.combs N k).take (j + 1)) := hid (fun x hx => by
        rw [List.map_append, HPRE.out, List.take_succ_eq_append_getElem hlt, hL]
        simp [hx])
      have HAD := hid (fun (W3 : World) (h : W3.rowIs cB 3 k (M.ic L)) => advance_any cB k N L W3 (by rw [hf.1]; exact h) (by omega) (by omega) hN (by omega) (fun i hi => by have := hf.2 i (by omega); omega) (by omega) (by omega))
      rw [hf.1] at HAD
      have HIS : Hid ((M.adv N L).isSome = decide (j + 1 < (M.combs N k).length)) := hid (by
        by_cases h2 : j + 1 < (M.combs N k).length
        · rw [← hL, M.chain_next HCH.out j h2, decide_eq_true h2]; rfl
        · rw [← hL, M.chain_last HCH.out j hlt (by omega), decide_eq_false h2]; rfl)
      have HNX : Hid (∀ h : j + 1 < (M.combs N k).length, (M.adv N L).getD L = (M.combs N k)[j + 1]) := hid (fun h2 => by
        rw [← hL, M.chain_next HCH.out j h2]; rfl)
      rw [HIS.out] at HAD
      have HF := hid hf
      have HRW := hid hrw
      have HLT := hid hlt
      clear hrow hrw hf hL HCH hkN
      rw [hd]
      gi_wp2_with fail
      refine ⟨trivial, fun _ => by omega, ?_⟩
      refine (callsIn_wide.2 HCL.out).mono ?_
      rintro e w5 ⟨a, cap, rfl, ho, hb5⟩
      obtain ⟨g, rfl, hgw, hRC⟩ : ∃ g, a = some ⟨g, 0, none⟩ ∧ wr.heap.size ≤ g ∧ M.RC ⟨g, cap, L⟩ w5 := by
        have ho2 := ho
        rcases ho.2 with ⟨_, e2⟩ | ⟨g, cap', cur, e2, h1, h2⟩
        · omega
        · simp only [Value.slice.injEq] at e2
          obtain ⟨rfl, _, rfl⟩ := e2
          refine ⟨g, rfl, h1, ?_, by show 1 ≤ L.length; rw [HF.out.1]; exact hk1⟩
          show RowI w5 0 (.slice (some ⟨g, 0, none⟩) L.length cap) (M.toI L)
          rw [HF.out.1]
          exact ho2.mono (Nat.zero_le _)
      obtain ⟨fn, tmps, assign, body, hy, hR⟩ := HY.out pre ⟨g, cap, L⟩ A2 w5 (HJ.out _ _ _ _ _ HJ3.out (M.al_below hb5)) ⟨⟨hRC, hasc, by show L.length ≤ 10; rw [HF.out.1]; exact hk⟩, HF.out.1⟩ (fun i hi => ⟨fun h2 => by have := HA2.out i h2; rw [show i = g from hi] at this; omega, by have := HA2.out cB hcBA; rw [show i = g from hi]; omega⟩) (fun i hi => Nat.lt_of_lt_of_le (HA2.out i hi) hb5.size) (by omega)
      have HSX := hid (HSN.out ⟨g, cap, L⟩ rfl)
      have HB5 := hid hb5
      unfold M.encC at hy
      dsimp only at hy
      rw [HF.out.1] at hy
      clear hRC ho hb5 HSN
      gi_wp2_with fail
      refine ⟨fun _ => by omega, hR.mono ?_⟩
      rintro e W3 (⟨rfl, hJ3, hk3⟩ | ⟨rfl, hJx3, _⟩)
      · have hr3 : W3.rowIs cB 3 k (M.ic L) := (HRW.out.of_block (HB5.out.block _ HRW.out.lt)).of_block (hk3.same _ hcBA)
        have HJ9 := hid hJ3
        have HK9 := hid hk3
        have hs3 : wr.heap.size ≤ W3.heap.size := Nat.le_trans HB5.out.size hk3.size
        have u1 : W3.cell? ⟨bs, 0, none⟩ = some (.int .i64 (k : Nat)) := (hk3.cell hAs).trans (cell_stays HB5.out (Nat.le_refl _) hvs)
        have u2 : W3.cell? ⟨bc, 0, none⟩ = some (.int .i64 (N : Nat)) := (hk3.cell hAc).trans (cell_stays HB5.out (Nat.le_refl _) hvc)
        have HAV := hid (HAD.out W3 hr3)
        clear hJ3 hk3 hr3 hvs hvc
        gi_wp2_with fail
        refine ⟨trivial, fun _ => by omega, ?_⟩
        refine (callsIn_wide.2 HAV.out).mono ?_
        rintro e W4 ⟨rfl, hr4, hg4⟩
        have HC4 : Hid (M.CR bs bc cB k N J (g0 - 1) (.bool (decide (j + 1 < (M.combs N k).length))) W4) := hid (by
          refine ⟨j + 1, _, A2, rfl, by omega, HSX.out, HJ.out _ _ _ _ _ HJ9.out (M.al_grown hg4 hcBA), hcBA, ⟨hAs, hAc, ?_, ?_⟩, fun i hi => Nat.lt_of_lt_of_le (HA2.out i hi) (Nat.le_trans hs3 hg4.size), fun h => ?_⟩
          · exact (World.cell?_of_block (hg4.block bs (Nat.lt_of_lt_of_le (HA2.out _ hAs) hs3) (fun e => HNE.out.1 (by cases e; rfl)))).trans u1
          · exact (World.cell?_of_block (hg4.block bc (Nat.lt_of_lt_of_le (HA2.out _ hAc) hs3) (fun e => HNE.out.2 (by cases e; rfl)))).trans u2
          · rw [HNX.out h] at hr4
            exact hr4)
        have HM := hid (HLE.out _ _ _ HC4.out)
        clear hr4 hg4
        gi_wp2
        go_roundw
        case rel => exact ⟨_, HC4.out⟩
        case measure =>
          show (M.least fun g => M.CR bs bc cB k N J g (.bool (decide (j + 1 < (M.combs N k).length))) W4) < (M.least fun g => M.CR bs bc cB k N J g (.bool true) wr)
          have h1 := HM.out
          have h2 := HG0.out
          rw [hd] at h2
          rw [h2]
          omega
      · have HJ9 := hid hJx3
        clear hJx3
        gi_wp2
        refine bodyPost_ret (results_none rfl _ _ _) rfl ?_
        exact ⟨⟨_, rfl⟩, .inr ⟨_, A2, ⟨j, HLT.out, HSX.out⟩, HJ9.out⟩⟩
    · have hd : decide (j < (M.combs N k).length) = false := decide_eq_false hlt
      have hje : pre.map (·.l) = M.combs N k := by rw [HPRE.out, List.take_of_length_le (by omega)]
      have HE := hid hje
      clear hje hrow
      rw [hd]
      gi_wp2
      go_end0
      exact ⟨⟨_, rfl⟩, .inl ⟨pre, A2, HE.out, HJ3.out, HA2.out⟩⟩

set_option maxHeartbeats 1000000 in
theorem coalitionsOf_in (n : Nat) (N k : Nat) (w : World) :
    CallsIn Fence.wide n Tryd.prog 72 #[.int .i64 (N : Nat), .int .i64 (k : Nat)] w fun e w' => e = .returned (.func (.func 86) #[] #[.pointer (some ⟨w.heap.size + 1, 0, none⟩), .pointer (some ⟨w.heap.size, 0, none⟩)]) ∧ w' = (w.alloc (.cells #[.int .i64 (N : Nat)] 3)).alloc (.cells #[.int .i64 (k : Nat)] 3) := by
  refine callsIn_of_wp Tryd.func72 rfl trivial ?_ rfl
  simp only [Tryd.ntmps72, List.size_toArray, List.length_cons, List.length_nil, Nat.reduceAdd, Nat.reduceSub, Array.replicate_succ, Array.replicate_zero, List.push_toArray, List.append_toArray, List.nil_append, List.cons_append]
  gi_wp2
  go_ret
  exact ⟨rfl, rfl⟩
end Go.Proofs.YthnklabdjaiplaaDoor
