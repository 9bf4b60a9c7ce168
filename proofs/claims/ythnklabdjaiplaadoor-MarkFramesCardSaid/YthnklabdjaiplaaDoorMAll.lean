/- Package mark: allCoalitions: what its function value yields. -/
import Derived.Test.YthnklabdjaiplaaDoorMIter
namespace Go.Proofs.YthnklabdjaiplaaDoor
open Go.RowKit Go.Shelf
attribute [local go_sem] Oper.semAt_some

theorem M.roundAny {m m' : Nat} {P : Program} {l l' : Nat} {f : FuncId} {tmps : Array Value} {assign body : Code} {w : World} {R : Ending → World → Prop}
    (h : RoundIn Fence.wide m P l f tmps assign body w R) : RoundIn (Fence.wide.inRound l') m' P l f tmps assign body w R :=
  ⟨h.1, fun c cs _ => h.2 c cs (fun d hd => by cases hd)⟩

/-- The marks of ranges over functions. -/
def M.marks (ds : List Nat) : List Deferred := ds.map fun D => { target := .collected D, args := #[] }
/-- The world behind the marks. -/
def M.shut : List Nat → World → World
  | [], w => w
  | D :: ds, w => M.shut ds (w.putObj D (.deferred none))
theorem M.shut_al {A : Nat → Prop} : ∀ (ds : List Nat) (w : World), (∀ D, D ∈ ds → A D) → M.Al A w A (M.shut ds w)
  | [], w, _ => M.Al.refl A w
  | D :: ds, w, h => (M.Al.put w _ (h D (by simp))).trans (M.shut_al ds _ fun E hE => h E (by simp [hE]))
theorem M.shut_size : ∀ (ds : List Nat) (w : World), (M.shut ds w).heap.size = w.heap.size
  | [], _ => rfl
  | D :: ds, w => by rw [M.shut, M.shut_size ds]; simp [World.putObj]

theorem M.leave {F : Fence} {n : Nat} {P : Program} {fn : Func} {tmps : Array Value} {R : Ending → World → Prop} : ∀ (ds : List Nat) (w : World), (∀ D, D ∈ ds → w.heap[D]? = some (.deferred (some []))) → ds.Nodup →
    (∃ v, (results fn tmps).run P (M.shut ds w) = .ok v (M.shut ds w) ∧ R (.returned v) (M.shut ds w)) → LeavesInM F n P fn tmps R (M.marks ds) .returning w
  | [], w, _, _, h => h
  | D :: ds, w, hd, hn, h => by
    rw [List.nodup_cons] at hn
    have h1 := hd D (by simp)
    refine ⟨(by simp), .inl ⟨D, _, rfl, run_takeDeferred h1, ?_⟩⟩
    exact M.leave ds _ (fun E hE => (World.putObj_heap_other (fun e : E = D => hn.1 (e ▸ hE))).trans (hd E (by simp [hE]))) hn.2 h

theorem M.Al.union {A A' E : Nat → Prop} {W W' : World} (h : M.Al A W A' W') : M.Al (fun i => A i ∨ E i) W (fun i => A' i ∨ E i) W' where
  os := h.os
  tape := h.tape
  output := h.output
  size := h.size
  mono k hk := hk.imp (h.mono k) id
  new k hk := by
    rcases hk with h1 | h1
    · exact (h.new k h1).imp .inl id
    · exact .inl (.inr h1)
  lt k hk := by
    rcases hk with h1 | h1
    · exact (h.lt k h1).imp .inl id
    · exact .inl (.inr h1)
  block k hk hn := h.block k hk (fun ha => hn (.inl ha))

/-- What a loop over another iterator keeps: the older foreign blocks lie as they lay. -/
def M.Old (E : Nat → Prop) (w : World) (A : Nat → Prop) (X : World) : Prop := (∀ i, E i → ¬ A i ∧ X.heap[i]? = w.heap[i]? ∧ i < w.heap.size) ∧ w.heap.size ≤ X.heap.size
theorem M.Old.al {E A A' : Nat → Prop} {w X X' : World} (h : M.Old E w A X) (k : M.Al A X A' X') : M.Old E w A' X' :=
  ⟨fun i hi => ⟨fun h' => by
    rcases k.new i h' with h1 | h1
    · exact (h.1 i hi).1 h1
    · have := (h.1 i hi).2.2; have := h.2; omega, (k.block i (Nat.lt_of_lt_of_le (h.1 i hi).2.2 h.2) (h.1 i hi).1).trans (h.1 i hi).2.1, (h.1 i hi).2.2⟩, Nat.le_trans h.2 k.size⟩
theorem M.Old.kq {E A : Nat → Prop} {w X X' : World} (h : M.Old E w A X) (k : M.Kq (fun i => A i ∨ E i) X X') : M.Old E w A X' :=
  ⟨fun i hi => ⟨(h.1 i hi).1, (k.same i (.inr hi)).trans (h.1 i hi).2.1, (h.1 i hi).2.2⟩, Nat.le_trans h.2 k.size⟩
theorem M.Old.cell {E A : Nat → Prop} {w X : World} (h : M.Old E w A X) {b o : Nat} (hb : E b) : X.cell? ⟨b, o, none⟩ = w.cell? ⟨b, o, none⟩ := World.cell?_of_block (h.1 b hb).2.1

/-- What the iterator of all sizes reads. -/
def M.BxA (bm bc most N : Nat) (A : Nat → Prop) (W : World) : Prop := A bm ∧ A bc ∧ W.cell? ⟨bm, 0, none⟩ = some (.int .i64 (most : Nat)) ∧ W.cell? ⟨bc, 0, none⟩ = some (.int .i64 (N : Nat))

theorem M.all_len {N m : Nat} (hN : N ≤ 10) (hm : m ≤ 10) : (M.all N m).length ≤ 1023 := by
  have h : ((List.range 11).all fun a => (List.range 11).all fun b => decide ((M.all a b).length ≤ 1023)) = true := by kernel_rfl
  have := List.all_eq_true.1 (List.all_eq_true.1 h N (by simp; omega)) m (by simp; omega)
  simpa using this

theorem M.all_take {N m m' : Nat} (hm : m ≤ m') : ∃ Z, M.all N m' = M.all N m ++ Z := by
  have : ∀ d, ∃ Z, M.all N (m + d) = M.all N m ++ Z := by
    intro d
    induction d with
    | zero => exact ⟨[], by simp⟩
    | succ d ih =>
      obtain ⟨Z, hZ⟩ := ih
      exact ⟨Z ++ M.combs N (m + d + 1), by rw [← Nat.add_assoc, M.all_succ, hZ, List.append_assoc]⟩
  have h := this (m' - m)
  rwa [show m + (m' - m) = m' from by omega] at h

/-- Between two sizes. -/
structure M.AR (bm bc bY l most N : Nat) (J : List M.Cx → (Nat → Prop) → World → Prop) (s : Nat) (ds : List Nat) (wr : World) : Prop where
  s1 : 1 ≤ s
  s2 : s ≤ most + 1
  st : ∃ (pre : List M.Cx) (A : Nat → Prop), pre.map (·.l) = M.all N (s - 1) ∧ J pre A wr ∧ M.BxA bm bc most N A wr ∧ A bY ∧ wr.cell? ⟨bY, 0, none⟩ = some (.func (.yield l) #[] #[]) ∧
    (∀ i, A i → i < wr.heap.size) ∧ ∀ D, D ∈ ds → A D ∧ wr.heap[D]? = some (.deferred (some []))
  nd : ds.Nodup

set_option maxRecDepth 100000 in
set_option maxHeartbeats 4000000 in
theorem allCoalitions1_seq (n : Nat) (hn : 4 ≤ n) (bm bc most N : Nat) (hm : most ≤ 10) (hN : N ≤ 10) :
    M.Seq Fence.wide n Tryd.prog 71 #[.pointer (some ⟨bm, 0, none⟩), .pointer (some ⟨bc, 0, none⟩)] M.encC (M.RN N) M.BkC (M.BxA bm bc most N)
      (fun xs => xs.map (·.l) = M.all N most) (fun pre => ∃ j, j < (M.all N most).length ∧ pre.map (·.l) = (M.all N most).take (j + 1)) 3000 := by
  intro l J Jx A W hBx hA hJ hJx hY h0
  obtain ⟨hAm, hAc, hcm, hcc⟩ := hBx
  have HY := hid hY
  have HJ := hid hJ
  have HJX := hid hJx
  clear hY hJ hJx
  obtain ⟨bY, hbY⟩ : ∃ bY, W.heap.size = bY := ⟨_, rfl⟩
  obtain ⟨W1, hW1⟩ : ∃ W1, W.alloc (.cells #[.func (.yield l) #[] #[]] 100) = W1 := ⟨_, rfl⟩
  have hs1 : W1.heap.size = bY + 1 := by rw [← hW1]; simp [hbY]
  have hb1 : Below W.heap.size W W1 := by rw [← hW1]; exact (Below.refl _ _).alloc (Nat.le_refl _) _
  have hcy : W1.cell? ⟨bY, 0, none⟩ = some (.func (.yield l) #[] #[]) := by rw [← hW1, World.cell?_alloc_at _ _ _ _ (by simp [hbY])]; rfl
  obtain ⟨A1, hA1⟩ : ∃ A1 : Nat → Prop, (fun i => A i ∨ i = bY) = A1 := ⟨_, rfl⟩
  have q1 : A1 bY := by rw [← hA1]; exact .inr rfl
  have q2 : A1 bm ∧ A1 bc := by rw [← hA1]; exact ⟨.inl hAm, .inl hAc⟩
  have q3 : ∀ i, A1 i → i < W1.heap.size := by
    rw [← hA1]; rintro i (hi | rfl)
    · have := hA i hi; omega
    · omega
  have q4 : M.Al A W A1 W1 := (M.al_below hb1).mark (fun i hi => by rw [← hA1]; exact .inl hi) (by
    rw [← hA1]; rintro i (hi | rfl)
    · exact .inl hi
    · right; omega)
  have HS : Hid (M.AR bm bc bY l most N J 1 [] W1) := hid ⟨Nat.le_refl _, by omega, ⟨[], A1, by simp [M.all], HJ.out _ _ _ _ _ h0 q4, ⟨q2.1, q2.2, cell_stays hb1 (Nat.le_refl _) hcm, cell_stays hb1 (Nat.le_refl _) hcc⟩, q1, hcy, q3, fun D hD => by simp at hD⟩, List.nodup_nil⟩
  have HLB : Hid (∀ k, M.BkC ⟨k, 0, []⟩ k → True) := hid (fun _ _ => trivial)
  have HWS : Hid (W.heap.size ≤ bY) := hid (by omega)
  clear q1 q2 q3 q4 hA1 h0 hb1 hAm hAc hA hcm hcc hcy HLB
  refine callsIn_of_wp_marks Tryd.func71 rfl trivial ?_ rfl
  simp only [Tryd.ntmps71, List.size_toArray, List.length_cons, List.length_nil, Nat.reduceAdd, Nat.reduceSub, Array.replicate_succ, Array.replicate_zero, List.push_toArray, List.append_toArray, List.nil_append, List.cons_append]
  gi_wp2
  refine wpIn_loop (fun a w => ∃ (s : Nat) (ds : List Nat) (u5 u6 u7 u8 u9 u10 u11 u12 u13 u14 u15 u16 u17 u18 : Value), a = { tmps := #[.func (.yield l) #[] #[], .pointer (some ⟨bm, 0, none⟩), .pointer (some ⟨bc, 0, none⟩), .pointer (some ⟨bY, 0, none⟩), .int .i64 (s : Nat), u5, u6, u7, u8, u9, u10, u11, u12, u13, u14, u15, u16, u17, u18], defers := M.marks ds } ∧ M.AR bm bc bY l most N J s ds w) (fun a _ => most + 1 - (intOf (a.tmps.getD 4 undef)).toNat) ?start ?round
  case start => exact ⟨1, [], _, _, _, _, _, _, _, _, _, _, _, _, _, _, rfl, HS.out⟩
  case round =>
    clear HS hW1 hs1 W1
    rintro a wr ⟨s, ds, u5, u6, u7, u8, u9, u10, u11, u12, u13, u14, u15, u16, u17, u18, rfl, hs1, hs2, ⟨pre, A2, hpre, hJ2, ⟨hAm, hAc, hvm, hvc⟩, hAY, hvy, hA2, hds⟩, hnd⟩
    have HPRE := hid hpre
    have HJ2 := hid hJ2
    have HA2 := hid hA2
    have HDS := hid hds
    have HND := hid hnd
    clear hpre hJ2 hA2 hds hnd
    by_cases hlt : s ≤ most
    · gi_wp2_with (refine ⟨trivial, fun _ => by omega, ?_⟩; refine (coalitionsOf_in _ N s wr).mono ?_; rintro e w' ⟨rfl, rfl⟩)
      obtain ⟨V0, hV0⟩ : ∃ V0, (wr.alloc (.cells #[.int .i64 (N : Nat)] 3)).alloc (.cells #[.int .i64 (s : Nat)] 3) = V0 := ⟨_, rfl⟩
      have hVs : V0.heap.size = wr.heap.size + 2 := by rw [← hV0]; simp
      have hVb : Below wr.heap.size wr V0 := by rw [← hV0]; exact ((Below.refl _ _).alloc (Nat.le_refl _) _).alloc (by simp) _
      have v0 : V0.cell? ⟨wr.heap.size, 0, none⟩ = some (.int .i64 (N : Nat)) := by
        have h1 : (wr.alloc (.cells #[.int .i64 (N : Nat)] 3)).cell? ⟨wr.heap.size, 0, none⟩ = some (.int .i64 (N : Nat)) := by rw [World.cell?_alloc_at _ _ _ _ rfl]; rfl
        rw [← hV0]
        exact Lib.cell?_alloc_some _ h1
      have v1 : V0.cell? ⟨wr.heap.size + 1, 0, none⟩ = some (.int .i64 (s : Nat)) := by rw [← hV0, World.cell?_alloc_at _ _ _ _ (by simp)]; rfl
      have hJV : J pre (fun i => (i = wr.heap.size ∨ i = wr.heap.size + 1) ∨ A2 i) V0 := HJ.out _ _ _ _ _ HJ2.out ((M.al_below hVb).mark (fun i hi => .inr hi) (by
        rintro i ((rfl | rfl) | hi)
        · right; omega
        · right; omega
        · exact .inl hi))
      have hOV : M.Old A2 wr (fun i => i = wr.heap.size ∨ i = wr.heap.size + 1) V0 := ⟨fun i hi => by
        have hl := HA2.out i hi
        exact ⟨by omega, hVb.block i hl, hl⟩, hVb.size⟩
      have HJV := hid hJV
      have HOV := hid hOV
      have HV := hid hVs
      rw [hV0]
      clear hV0 hJV hOV
      have hV1 : ∀ o o', ((V0.alloc o).alloc o').cell? ⟨wr.heap.size, 0, none⟩ = some (.int .i64 (N : Nat)) := fun o o' => Lib.cell?_alloc_some _ (Lib.cell?_alloc_some _ v0)
      have hV2 : ∀ o o', ((V0.alloc o).alloc o').cell? ⟨wr.heap.size + 1, 0, none⟩ = some (.int .i64 (s : Nat)) := fun o o' => Lib.cell?_alloc_some _ (Lib.cell?_alloc_some _ v1)
      have HPL : Hid (pre.length ≤ 1023) := hid (by
        have := congrArg List.length HPRE.out
        rw [List.length_map] at this
        have := M.all_len (N := N) (m := s - 1) hN (by omega)
        omega)
      refine M.range rfl (by omega) (gf := 86) (lb := #[.pointer (some ⟨wr.heap.size + 1, 0, none⟩), .pointer (some ⟨wr.heap.size, 0, none⟩)]) rfl trivial (enters_of Tryd.func86 (by kernel_rfl) rfl)
        (coalitionsOf1_seq (n - 1) (by omega) (wr.heap.size + 1) wr.heap.size s N hs1 (by omega) hN) (M.RNk.put s N) (fun _ => rfl)
        (fun i => i = wr.heap.size ∨ i = wr.heap.size + 1) (by rintro i (rfl | rfl) <;> omega) (fun o o' => ⟨.inr rfl, .inl rfl, hV2 o o', hV1 o o'⟩)
        (fun pre' Ai X => J (pre ++ pre') (fun i => Ai i ∨ A2 i) X ∧ M.Old A2 wr Ai X)
        (fun c pre' Ai X => c = .ret ∧ Jx (pre ++ pre') (fun i => Ai i ∨ A2 i) X ∧ M.Old A2 wr Ai X)
        (fun _ _ _ _ _ h k => ⟨HJ.out _ _ _ _ _ h.1 k.union, h.2.al k⟩) (fun _ _ _ _ _ _ h k => ⟨h.1, HJX.out _ _ _ _ _ h.2.1 k.union, h.2.2.al k⟩)
        ⟨by rw [List.append_nil]; exact HJV.out, HOV.out⟩
        (fun x => { tmps := #[.func (.yield l) #[] #[], .pointer (some ⟨bm, 0, none⟩), .pointer (some ⟨bc, 0, none⟩), .pointer (some ⟨bY, 0, none⟩), .int .i64 (s : Nat), .slice (some ⟨x.g, 0, none⟩) x.l.length x.cap, .int .i64 (s : Nat), .int .i64 (most : Nat), .bool true, u9, u10, .int .i64 (N : Nat), .int .i64 (s : Nat), .func (.func 86) #[] #[.pointer (some ⟨wr.heap.size + 1, 0, none⟩), .pointer (some ⟨wr.heap.size, 0, none⟩)], .slice (some ⟨x.g, 0, none⟩) x.l.length x.cap, u15, u16, u17, u18], defers := [] })
        ?assign ?body ?done ?stop (M.RNk.cells s N)
      case assign =>
        intro li x X K hK
        unfold M.encC
        gi_wp2
        exact hK
      case body =>
        rintro li pre' x Ai X ⟨hJ', hO'⟩ hR hx hAlt hlen
        obtain ⟨fn, tmps, assign, body, hy, hRd⟩ := HY.out (pre ++ pre') x (fun i => Ai i ∨ A2 i) X hJ' hR.1 (fun k hk => by
          have h1 := hx k hk
          have h2 := HA2.out bY hAY
          have h3 := HWS.out
          have h4 := HV.out
          refine ⟨?_, by omega⟩
          rintro (h | h)
          · exact h1.1 h
          · have := HA2.out k h; omega) (by
          rintro i (h | h)
          · exact hAlt i h
          · have := HA2.out i h; have := hO'.2; omega) (by have := HPL.out; rw [List.length_append]; omega)
        have hcY := (hO'.cell (o := 0) hAY).trans hvy
        have HO' := hid hO'
        unfold M.encC at hy
        clear hJ' hR hx hAlt hO'
        gi_wp2_with fail
        refine ⟨fun _ => by omega, (M.roundAny hRd).mono ?_⟩
        rintro e W3 (⟨rfl, hJ3, hk3⟩ | ⟨rfl, hJ3, hk3⟩)
        · have HJ3 := hid hJ3
          have HK3 := hid hk3
          clear hJ3 hk3
          gi_wp2
          exact ⟨HK3.out.weak (fun _ h => .inl h), by rw [← List.append_assoc]; exact HJ3.out, HO'.out.kq HK3.out⟩
        · have HJ3 := hid hJ3
          have HK3 := hid hk3
          clear hJ3 hk3
          gi_wp2
          exact ⟨HK3.out.weak (fun _ h => .inl h), rfl, by rw [← List.append_assoc]; exact HJ3.out, HO'.out.kq HK3.out⟩
      case done =>
        rintro D xs Ai X hAD hS ⟨hJ', hO'⟩ hAlt hD
        have HJ' := hid hJ'
        have HO' := hid hO'
        have HAL := hid hAlt
        have HS := hid hS
        clear hJ' hO' hAlt hS
        gi_wp2
        refine ⟨⟨s + 1, D :: ds, _, _, _, _, _, _, _, _, _, _, _, _, _, _, rfl, ⟨by omega, by omega, ⟨pre ++ xs, fun i => Ai i ∨ A2 i, ?_, HJ'.out, ⟨.inr hAm, .inr hAc, (HO'.out.cell hAm).trans hvm, (HO'.out.cell hAc).trans hvc⟩, .inr hAY, (HO'.out.cell hAY).trans hvy, ?_, ?_⟩, ?_⟩⟩, ?_⟩
        · rw [List.map_append, HPRE.out, HS.out, show s + 1 - 1 = (s - 1) + 1 from by omega, M.all_succ, show s - 1 + 1 = s from by omega]
        · rintro i (h | h)
          · exact HAL.out i h
          · have := HA2.out i h; have := HO'.out.2; omega
        · intro E hE
          rcases List.mem_cons.1 hE with rfl | hE
          · exact ⟨.inl hAD, hD⟩
          · have := HDS.out E hE
            exact ⟨.inr this.1, (HO'.out.1 E this.1).2.1.trans this.2⟩
        · rw [List.nodup_cons]
          exact ⟨fun hE => (HO'.out.1 D (HDS.out D hE).1).1 hAD, HND.out⟩
        · simp [intOf]
          omega
      case stop =>
        rintro D c pre' Ai X hAD hSp ⟨rfl, hJ', hO'⟩ hD
        have HJ' := hid hJ'
        have HO' := hid hO'
        have HSP := hid hSp
        clear hJ' hO' hSp
        gi_wp2
        refine M.leave (D :: ds) X ?_ ?_ ⟨_, results_none rfl _ _ _, ⟨_, rfl⟩, .inr ⟨pre ++ pre', fun i => Ai i ∨ A2 i, ?_, HJX.out _ _ _ _ _ HJ'.out (M.shut_al (D :: ds) X ?_)⟩⟩
        · intro E hE
          rcases List.mem_cons.1 hE with rfl | hE
          · exact hD
          · exact (HO'.out.1 E (HDS.out E hE).1).2.1.trans (HDS.out E hE).2
        · rw [List.nodup_cons]
          exact ⟨fun hE => (HO'.out.1 D (HDS.out D hE).1).1 hAD, HND.out⟩
        · obtain ⟨j, hj, hjm⟩ := HSP.out
          obtain ⟨Z, hZ⟩ := M.all_take (N := N) hlt
          have e : M.all N s = M.all N (s - 1) ++ M.combs N s := by
            have := M.all_succ N (s - 1)
            rwa [show s - 1 + 1 = s from by omega] at this
          rw [e] at hZ
          refine ⟨(M.all N (s - 1)).length + j, by rw [hZ]; simp only [List.length_append]; omega, ?_⟩
          rw [List.map_append, HPRE.out, hjm, hZ, List.append_assoc, Nat.add_assoc, List.take_length_add_append, List.take_append_of_le_length (by omega)]
        · intro E hE
          rcases List.mem_cons.1 hE with rfl | hE
          · exact .inl hAD
          · exact .inr (HDS.out E hE).1
    · have hse : s = most + 1 := by omega
      subst hse
      gi_wp2
      refine M.leave ds wr (fun D hD => (HDS.out D hD).2) HND.out ⟨_, results_none rfl _ _ _, ⟨_, rfl⟩, .inl ⟨pre, A2, HPRE.out, HJ.out _ _ _ _ _ HJ2.out (M.shut_al ds wr fun D hD => (HDS.out D hD).1), ?_⟩⟩
      rw [M.shut_size]
      exact HA2.out
end Go.Proofs.YthnklabdjaiplaaDoor
