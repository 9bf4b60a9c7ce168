/- Package mark: the walk of suspects' iterator. -/
import Derived.Test.YthnklabdjaiplaaDoorMSusP
import Derived.Test.YthnklabdjaiplaaDoorMHeld
namespace Go.Proofs.YthnklabdjaiplaaDoor
open Go.RowKit Go.Shelf
attribute [local go_sem] Oper.semAt_some

/-- The small coalitions, collected. -/
structure M.Sm (s : Nat) (v : Value) (xs : List M.Cx) (W : World) : Prop where
  row : W.ownsRow s 25 1 v xs.length (xs.map M.enc1)
  rc : ∀ x, x ∈ xs → M.RC x W
  ge : ∀ x, x ∈ xs → s ≤ x.g
theorem M.Sm.keep {s : Nat} {v : Value} {xs : List M.Cx} {W W' : World} (h : M.Sm s v xs W) (k : ∀ i, s ≤ i → i < W.heap.size → W'.heap[i]? = W.heap[i]?) : M.Sm s v xs W' := by
  refine ⟨⟨h.row.1, ?_⟩, fun x hx => (h.rc x hx).of_block (k _ (h.ge x hx) (h.rc x hx).lt), h.ge⟩
  rcases h.row.2 with h1 | ⟨g, cap, cur, rfl, h1, h2, h3⟩
  · exact .inl h1
  · exact .inr ⟨g, cap, cur, rfl, h1, (k g h1 (Array.getElem?_eq_some_iff.1 h2).1).trans h2, h3⟩
theorem M.Sm.stays {s : Nat} {v : Value} {xs : List M.Cx} {W W' : World} (h : M.Sm s v xs W) (k : Below W.heap.size W W') : M.Sm s v xs W' := h.keep fun i _ hi => k.block i hi
theorem M.Sm.form {s : Nat} {v : Value} {xs : List M.Cx} {W : World} (h : M.Sm s v xs W) (h0 : 0 < xs.length) : ∃ g cap, v = .slice (some ⟨g, 0, none⟩) xs.length cap ∧ xs.length ≤ cap := by
  rcases h.row.2 with ⟨_, h1⟩ | ⟨g, cap, cur, rfl, h1, h2, h3, _⟩
  · omega
  · exact ⟨g, cap, rfl, h3⟩
theorem M.Sm.len {s : Nat} {v : Value} {xs : List M.Cx} {W : World} (h : M.Sm s v xs W) : ∃ a cap, v = .slice a xs.length cap := by
  rcases h.row.2 with ⟨rfl, h1⟩ | ⟨g, cap, cur, rfl, h1, h2, h3, _⟩
  · exact ⟨none, 0, by rw [h1]⟩
  · exact ⟨_, cap, rfl⟩
theorem M.Sm.at {s g cap : Nat} {xs : List M.Cx} {W : World} (h : M.Sm s (.slice (some ⟨g, 0, none⟩) xs.length cap) xs W) {i : Nat} (hi : i < xs.length) : W.cell? ⟨g, i, none⟩ = some (M.enc1 (xs.getD i ⟨0, 0, []⟩)) := by
  have := World.ownsRow.cellAt h.row i (by omega)
  rw [this, List.getD_eq_getElem?_getD, List.getElem?_eq_getElem hi]
  simp [hi]

/-- What stands between two rounds of the two loops. -/
structure M.SW (A1 : Nat → Prop) (B s : Nat) (v : Value) (xs : List M.Cx) (N : Nat) (J : List M.Dx → (Nat → Prop) → World → Prop) (W1 : World) (Y : List (List (List Nat))) (wr : World) : Prop where
  st : ∃ pre : List M.Dx, pre.map M.lab = Y ∧ J pre A1 wr
  kq : M.Kq A1 W1 wr
  sm : M.Sm s v xs wr
theorem M.SW.stays {A1 : Nat → Prop} {B s : Nat} {v : Value} {xs : List M.Cx} {N : Nat} {J : List M.Dx → (Nat → Prop) → World → Prop} {W1 : World} {Y : List (List (List Nat))} {wr W' : World} (h : M.SW A1 B s v xs N J W1 Y wr) (hJ : M.Ab J) (hA : ∀ k, A1 k → k < W1.heap.size) (hb : Below wr.heap.size wr W') : M.SW A1 B s v xs N J W1 Y W' := by
  obtain ⟨pre, h1, h2⟩ := h.st
  exact ⟨⟨pre, h1, hJ _ _ _ _ _ h2 (M.al_below hb)⟩, h.kq.trans (M.Kq.of_below hb (fun k hk => Nat.lt_of_lt_of_le (hA k hk) h.kq.size)), h.sm.stays hb⟩

set_option maxRecDepth 100000 in
set_option maxHeartbeats 4000000 in
theorem suspects1_seq (n : Nat) (hn : 8 ≤ n) (bc N : Nat) (hN : N ≤ 10) :
    M.SeqK Fence.wide n Tryd.prog 75 #[.pointer (some ⟨bc, 0, none⟩)] M.encD (M.RD N) M.BkD (fun A W => A bc ∧ W.cell? ⟨bc, 0, none⟩ = some (.int .i64 (N : Nat)))
      (fun xs => xs.map M.lab = M.sus N) (fun pre => ∃ Z, M.sus N = pre.map M.lab ++ Z) 3000 := by
  intro l J Jx A W hBx hA hJ hJx hY h0
  obtain ⟨hAc, hcc⟩ := hBx
  have HY := hid hY
  have HJ := hid hJ
  have HJX := hid hJx
  clear hY hJ hJx
  obtain ⟨bY, hbY⟩ : ∃ bY, W.heap.size = bY := ⟨_, rfl⟩
  obtain ⟨W1, hW1⟩ : ∃ W1, W.alloc (.cells #[.func (.yield l) #[] #[]] 103) = W1 := ⟨_, rfl⟩
  have hs1 : W1.heap.size = bY + 1 := by rw [← hW1]; simp [hbY]
  have hb1 : Below W.heap.size W W1 := by rw [← hW1]; exact (Below.refl _ _).alloc (Nat.le_refl _) _
  have hcy : W1.cell? ⟨bY, 0, none⟩ = some (.func (.yield l) #[] #[]) := by rw [← hW1, World.cell?_alloc_at _ _ _ _ (by simp [hbY])]; rfl
  obtain ⟨A1, hA1⟩ : ∃ A1 : Nat → Prop, (fun i => A i ∨ i = bY) = A1 := ⟨_, rfl⟩
  have hAY : A1 bY := by rw [← hA1]; exact .inr rfl
  have hAC : A1 bc := by rw [← hA1]; exact .inl hAc
  have hA1s : ∀ i, A1 i → i < W1.heap.size := by
    rw [← hA1]; rintro i (hi | rfl)
    · have := hA i hi; omega
    · omega
  have q4 : M.Al A W A1 W1 := (M.al_below hb1).mark (fun i hi => by rw [← hA1]; exact .inl hi) (by
    rw [← hA1]; rintro i (hi | rfl)
    · exact .inl hi
    · right; omega)
  have HJ1 := hid (HJ.out _ _ _ _ _ h0 q4)
  have k0 : W1.cell? ⟨bc, 0, none⟩ = some (.int .i64 (N : Nat)) := cell_stays hb1 (Nat.le_refl _) hcc
  have HA1 := hid hA1s
  have HWB : Hid (W.heap.size = bY) := hid hbY
  have HS1 := hid hs1
  clear q4 hA1 h0 hb1 hAc hA hcc hA1s hs1
  refine callsIn_of_wp_marks Tryd.func75 rfl trivial ?_ rfl
  simp only [Tryd.ntmps75, List.size_toArray, List.length_cons, List.length_nil, Nat.reduceAdd, Nat.reduceSub, Array.replicate_succ, Array.replicate_zero, List.push_toArray, List.append_toArray, List.nil_append, List.cons_append]
  gi_wp2_with fail
  clear hW1 hbY
  refine ⟨trivial, fun _ => by omega, ?_⟩
  refine (allCoalitions_in _ N 2 W1).mono ?_
  rintro e w' ⟨rfl, rfl⟩
  obtain ⟨V0, hV0⟩ : ∃ V0, (W1.alloc (.cells #[.int .i64 (N : Nat)] 3)).alloc (.cells #[.int .i64 ((2 : Nat) : Int)] 3) = V0 := ⟨_, rfl⟩
  have hVs : V0.heap.size = W1.heap.size + 2 := by rw [← hV0]; simp
  have hVb : Below W1.heap.size W1 V0 := by rw [← hV0]; exact ((Below.refl _ _).alloc (Nat.le_refl _) _).alloc (by simp) _
  have v0 : V0.cell? ⟨W1.heap.size, 0, none⟩ = some (.int .i64 (N : Nat)) := by
    have h1 : (W1.alloc (.cells #[.int .i64 (N : Nat)] 3)).cell? ⟨W1.heap.size, 0, none⟩ = some (.int .i64 (N : Nat)) := by rw [World.cell?_alloc_at _ _ _ _ rfl]; rfl
    rw [← hV0]
    exact Lib.cell?_alloc_some _ h1
  have v1 : V0.cell? ⟨W1.heap.size + 1, 0, none⟩ = some (.int .i64 (2 : Nat)) := by rw [← hV0, World.cell?_alloc_at _ _ _ _ (by simp)]; rfl
  have HCL := hid (collect_in (n - 1) (by omega) (W1.heap.size + 1) W1.heap.size 2 N W1.heap.size V0 (by omega) hN v1 v0 (by omega) (Nat.le_refl _) (by omega))
  have HVB := hid hVb
  rw [hV0]
  clear hV0 v0 v1
  gi_wp2_with fail
  refine ⟨trivial, fun _ => by omega, ?_⟩
  refine HCL.out.mono ?_
  rintro e w2 ⟨xs, v, rfl, hxs, hrow, hrc, hb2, hsz⟩
  have hbw : Below W1.heap.size W1 w2 := hVb.trans hb2
  obtain ⟨s, hs⟩ : ∃ s, V0.heap.size = s := ⟨_, rfl⟩
  rw [hs] at hrow hrc hsz
  have hWs : W1.heap.size ≤ s := by omega
  obtain ⟨S, hS⟩ : ∃ S, M.all N 2 = S := ⟨_, rfl⟩
  have HST := hid (fun i j => M.sus_two (N := N) (i := i) (j := j))
  rw [hS] at hxs HST
  have hSl : S.length = xs.length := by rw [← hxs, List.length_map]
  rw [hSl] at HST
  have hgl : ∀ k, k < xs.length → S.getD k [] = (xs.getD k ⟨0, 0, []⟩).l := fun k hk => by
    rw [← hxs, List.getD_eq_getElem?_getD, List.getElem?_map, List.getD_eq_getElem?_getD, List.getElem?_eq_getElem hk]
    rfl
  have hok : ∀ k, k < xs.length → xs.getD k ⟨0, 0, []⟩ ∈ xs ∧ M.asc 0 N (xs.getD k ⟨0, 0, []⟩).l ∧ (xs.getD k ⟨0, 0, []⟩).l.length ≤ 2 := fun k hk => by
    have hm : xs.getD k ⟨0, 0, []⟩ ∈ xs := by rw [List.getD_eq_getElem?_getD, List.getElem?_eq_getElem hk]; exact List.getElem_mem hk
    have : (xs.getD k ⟨0, 0, []⟩).l ∈ M.all N 2 := by rw [hS, ← hxs]; exact List.mem_map_of_mem hm
    have := M.mem_all.1 this
    exact ⟨hm, this.2.2, this.2.1⟩
  have hxl : xs.length ≤ 1023 := by
    have := M.all_len (N := N) (m := 2) hN (by omega)
    rw [hS] at this
    omega
  have HSM := hid (⟨hrow, fun x hx => (hrc x hx).1, fun x hx => (hrc x hx).2⟩ : M.Sm s v xs w2)
  have HSW : Hid (M.SW A1 0 s v xs N J W1 [] w2) := hid ⟨⟨[], rfl, HJ.out _ _ _ _ _ HJ1.out (M.al_below hbw)⟩, M.Kq.of_below hbw HA1.out, HSM.out⟩
  have HGL := hid hgl
  have HOK := hid hok
  have HSL := hid hSl
  have HWS := hid hWs
  have HXL := hid hxl
  have HSS := hid hS
  obtain ⟨a0, cap0, hv⟩ := HSM.out.len
  subst hv
  clear hxs hrow hrc hb2 hsz hbw hs hSl hgl hok hxl hVb HVB HCL hWs hS HSM HJ1 hVs
  gi_wp2
  gi_loopw [15] (fun i wr => ∃ k : Nat, k ≤ xs.length ∧ i = .int .i64 k ∧ M.SW A1 0 s (.slice a0 xs.length cap0) xs N J W1 (M.twA S k) wr) (fun i _ => xs.length - (intOf i).toNat)
  case atStart => exact ⟨0, Nat.zero_le _, rfl, HSW.out⟩
  case round =>
    obtain ⟨k, hk, rfl, hsw⟩ := hrel
    clear HSW w2
    have hxl := HXL.out
    by_cases hlt : k < xs.length
    · obtain ⟨g, cap', hv, hcap⟩ := hsw.sm.form (by omega)
      simp only [Value.slice.injEq, true_and] at hv
      obtain ⟨rfl, rfl⟩ := hv
      have hck := hsw.sm.at hlt
      have HTZ : Hid (M.twA S (k + 1) = M.twA S k ++ M.twR S k (xs.length - (k + 1))) := hid (by show M.twA S k ++ M.twR S k (S.length - (k + 1)) = _; rw [HSL.out])
      have HXK := hid (HOK.out k hlt)
      have HGK := hid (HGL.out k hlt)
      have HTW := hid (M.twR_succ S k)
      have HSW0 := hid hsw
      have hsl : (0 : Int) ≤ (k : Int) ∧ (k : Int) ≤ (cap0 : Int) := by omega
      have hsl2 : (0 : Int) ≤ (k : Int) + 1 ∧ (k : Int) + 1 ≤ (xs.length : Int) := by omega
      have htn : ((k : Int) + 1).toNat = k + 1 := by omega
      have hwx : IntKind.i64.wrap ((k : Int) + 1) = (k : Int) + 1 := IntWalk.i64_in _ ⟨by omega, by have := HXL.out; omega⟩
      obtain ⟨o2, ho2⟩ : ∃ o2, (if cap0 = k + 1 then (⟨g, 0, none⟩ : Addr) else ⟨g, k + 1, none⟩) = ⟨g, o2, none⟩ := by
        by_cases e : cap0 = k + 1
        · exact ⟨0, by rw [if_pos e]⟩
        · exact ⟨k + 1, by rw [if_neg e]⟩
      have hsd : ∀ w, (Instr.slice 22 (.slice (some ⟨g, 0, none⟩) xs.length cap0) (some (.int .i64 ((k : Int) + 1))) none none).run Tryd.prog w = .ok (.slice (some ⟨g, o2, none⟩) (xs.length - (k + 1)) (cap0 - (k + 1))) w := fun w => by
        rw [run_slice_l (P := Tryd.prog) w 22 (some ⟨g, 0, none⟩) xs.length cap0 (by kernel_rfl) .i64 ((k : Int) + 1) hsl2.1 hsl2.2, show (sizeOf (Tryd.prog.elem 22)).run Tryd.prog w = .ok 1 w by kernel_rfl]
        unfold sliced
        rw [htn]
        by_cases e : cap0 = k + 1
        · rw [if_pos e] at ho2
          show Result.ok (Value.slice (if cap0 = k + 1 then _ else _) _ _) w = _
          rw [if_pos e, ho2]
        · rw [if_neg e] at ho2
          show Result.ok (Value.slice (if cap0 = k + 1 then _ else _) _ _) w = _
          rw [if_neg e, ← ho2]
          simp [Addr.add]
      have HO2 : Hid (∀ j, j < xs.length - (k + 1) → o2 + j = k + 1 + j) := hid (fun j hj => by
        rw [if_neg (by omega)] at ho2
        simp only [Addr.mk.injEq, and_true, true_and] at ho2
        omega)
      generalize xs.getD k ⟨0, 0, []⟩ = xk at *
      clear ho2 hsw
      unfold M.enc1 at hck
      gi_wp2
      gi_loopw [25] (fun i wr => ∃ j : Nat, j ≤ xs.length - (k + 1) ∧ i = .int .i64 j ∧ M.SW A1 0 s (.slice (some ⟨g, 0, none⟩) xs.length cap0) xs N J W1 (M.twA S k ++ M.twR S k j) wr) (fun i _ => xs.length - (k + 1) - (intOf i).toNat)
      case atStart => exact ⟨0, Nat.zero_le _, rfl, by rw [show M.twR S k 0 = [] from rfl, List.append_nil]; exact HSW0.out⟩
      case round =>
        obtain ⟨j, hj, rfl, hsw⟩ := hrel
        clear HSW0 hck hsd
        by_cases hlj : j < xs.length - (k + 1)
        · have hkj : k + 1 + j < xs.length := by omega
          have hcj : wr.cell? ⟨g, o2 + j, none⟩ = some (M.enc1 (xs.getD (k + 1 + j) ⟨0, 0, []⟩)) := by rw [HO2.out j hlj]; exact hsw.sm.at hkj
          have HXJ := hid (HOK.out (k + 1 + j) hkj)
          have HGJ := hid (HGL.out (k + 1 + j) hkj)
          have HTJ := hid (HTW.out j)
          have HZZ := hid (HST.out k j hlt (by omega))
          rw [HGK.out, HGJ.out] at HTJ
          generalize xs.getD (k + 1 + j) ⟨0, 0, []⟩ = xj at *
          have HSJ := hid hsw
          clear hsw HGJ
          unfold M.enc1 at hcj
          obtain ⟨W5, hW5⟩ : ∃ W5, wr.alloc (.cells #[.slice (some ⟨xk.g, 0, none⟩) xk.l.length xk.cap, .slice (some ⟨xj.g, 0, none⟩) xj.l.length xj.cap] 25) = W5 := ⟨_, rfl⟩
          have hb5 : Below wr.heap.size wr W5 := by rw [← hW5]; exact (Below.refl _ _).alloc (Nat.le_refl _) _
          have hrd : M.RD N ⟨wr.heap.size, [xk, xj]⟩ W5 := by
            rw [← hW5]
            exact M.rd_new N wr [xk, xj] (fun c hc => by
              rcases List.mem_cons.1 hc with rfl | hc
              · exact HSJ.out.sm.rc _ HXK.out.1
              · rw [List.mem_singleton.1 hc]; exact HSJ.out.sm.rc _ HXJ.out.1) (fun c hc => by
              rcases List.mem_cons.1 hc with rfl | hc
              · exact HXK.out.2
              · rw [List.mem_singleton.1 hc]; exact HXJ.out.2) (by show 2 ≤ 2; omega) (by show 2 ≤ 3; omega) _ rfl
          have hmr : ∀ c : M.Cx, M.asc 0 N c.l → ∀ y, y ∈ M.toI c.l → 0 ≤ y ∧ y < 10 := fun c hc y hy => by
            unfold M.toI at hy
            obtain ⟨z, hz, rfl⟩ := List.mem_map.1 hy
            have := M.asc_lt hc z hz
            omega
          have HMM : Hid (Calls Tryd.prog 60 #[.slice (some ⟨wr.heap.size, 0, none⟩) 2 2] W5 fun e w' => ∃ v, e = .returned v ∧ RowI w' W5.heap.size v (M.mem [M.toI xk.l, M.toI xj.l]) ∧ Below W5.heap.size W5 w') :=
            hid (membersOfAll_any (some ⟨wr.heap.size, 0, none⟩) 2 [M.toI xk.l, M.toI xj.l] W5 (by show 1 ≤ 2; omega) (by show 2 ≤ 1100; omega) (fun i hi => by
              match i, hi with
              | 0, _ => show (M.toI xk.l).length ≤ 10; rw [M.toI_len]; have := HXK.out.2.2; omega
              | 1, _ => show (M.toI xj.l).length ≤ 10; rw [M.toI_len]; have := HXJ.out.2.2; omega) (fun y hy => by
              simp only [List.flatten_cons, List.flatten_nil, List.append_nil, List.mem_append] at hy
              rcases hy with hy | hy
              · exact hmr xk HXK.out.2.1 y hy
              · exact hmr xj HXJ.out.2.1 y hy) hrd.rd)
          have HB5 := hid hb5
          have HRD := hid hrd
          have hdis : M.dis xk.l xj.l = ((M.mem [M.toI xk.l, M.toI xj.l]).length == 0) := rfl
          have HW5 := hid hW5
          clear hb5 hrd hmr
          generalize M.mem [M.toI xk.l, M.toI xj.l] = Z at *
          gi_wp2_with fail
          refine ⟨trivial, fun _ => by omega, ?_⟩
          refine (callsIn_wide.2 HMM.out).mono ?_
          rintro e w6 ⟨vm, rfl, hro, hb6⟩
          obtain ⟨am, cm, rfl, -⟩ := hro.rd
          have HB6 := hid (HB5.out.trans (hb6.mono HB5.out.size))
          have HRD6 := hid (HRD.out.of_block fun i hi => hb6.block i (HRD.out.lt hi))
          have HS6 := hid (HSJ.out.stays HJ.out HA1.out HB6.out)
          clear hro hb6 hW5 hcj
          cases hd : M.dis xk.l xj.l with
          | true =>
            rw [hd, if_pos rfl] at HTJ
            rw [hd] at hdis
            have hz : Z.length = 0 := by simpa using hdis.symm
            have hz' : ((Z.length : Int) == 0) = true := beq_iff_eq.2 (by omega)
            obtain ⟨pre, hpre, hJ6⟩ := HS6.out.st
            have hpl : pre.length ≤ 2000 := by
              obtain ⟨Z2, hZ2⟩ := HZZ.out
              have := M.pre_len hN hZ2
              rw [← hpre, List.length_map] at this
              exact this
            have hcy6 : w6.cell? ⟨bY, 0, none⟩ = some (.func (.yield l) #[] #[]) := (HS6.out.kq.cell hAY).trans hcy
            obtain ⟨fn, tmps, assign, body, hy, hR⟩ := HY.out pre ⟨wr.heap.size, [xk, xj]⟩ A1 w6 hJ6 HRD6.out (fun i hi => by
              have h2 := HSJ.out.kq.size
              have h3 := HWS.out
              have h4 := HWB.out
              have h5 := HS1.out
              have h6 : W1.heap.size ≤ i := by
                rcases hi with hi | ⟨c, hc, hi⟩
                · have : i = wr.heap.size := hi
                  omega
                · have hg : s ≤ c.g := by
                    rcases List.mem_cons.1 hc with rfl | hc
                    · exact HSJ.out.sm.ge _ HXK.out.1
                    · rw [List.mem_singleton.1 hc]; exact HSJ.out.sm.ge _ HXJ.out.1
                  omega
              exact ⟨fun h => by have := HA1.out i h; omega, by omega⟩) (fun i hi => by have := HA1.out i hi; have := HS6.out.kq.size; omega) (by omega)
            have HLB : Hid ((pre ++ [(⟨wr.heap.size, [xk, xj]⟩ : M.Dx)]).map M.lab = M.twA S k ++ M.twR S k (j + 1)) := hid (by
              rw [HTJ.out, List.map_append, hpre, ← List.append_assoc]
              rfl)
            have HZ3 : Hid (∃ Z, M.sus N = M.twA S k ++ M.twR S k (j + 1) ++ Z) := hid (HST.out k (j + 1) hlt (by omega))
            have HPRE := hid hpre
            simp only [M.encD, List.length_cons, List.length_nil, Nat.zero_add, Nat.reduceAdd] at hy
            clear hz hdis hd hpre hJ6
            generalize hpx : pre ++ [(⟨wr.heap.size, [xk, xj]⟩ : M.Dx)] = pre2 at *
            gi_wp2_with fail
            refine ⟨fun _ => by omega, hR.mono ?_⟩
            rintro e W7 (⟨rfl, hJ7, hk7⟩ | ⟨rfl, hJ7, hk7⟩)
            · have HS7 : Hid (M.SW A1 0 s (.slice (some ⟨g, 0, none⟩) xs.length cap0) xs N J W1 (M.twA S k ++ M.twR S k (j + 1)) W7) := hid ⟨⟨pre2, HLB.out, hJ7⟩, HS6.out.kq.trans (hk7.weak fun _ h => .inl h), HS6.out.sm.keep fun i h1 h2 => hk7.same i (.inr ⟨by have := HWS.out; have := HWB.out; have := HS1.out; omega, h2⟩)⟩
              clear hJ7 hk7 hR hy
              gi_wp2
              go_roundw
              case rel => exact ⟨j + 1, by omega, by go_num, HS7.out⟩
              case measure => simp [intOf]; omega
            · have HJ7 := hid hJ7
              clear hJ7 hk7 hR hy
              gi_wp2
              refine M.leave [] W7 (by simp) (by simp) ⟨_, results_none rfl _ _ _, ⟨_, rfl⟩, .inr ⟨pre2, A1, ?_, HJ7.out⟩⟩
              obtain ⟨Z2, hZ2⟩ := HZ3.out
              exact ⟨Z2, by rw [HLB.out]; exact hZ2⟩
          | false =>
            rw [hd, if_neg Bool.false_ne_true, List.append_nil] at HTJ
            rw [hd] at hdis
            have hz : Z.length ≠ 0 := by simpa using hdis.symm
            have hz' : ((Z.length : Int) == 0) = false := beq_eq_false_iff_ne.2 (by omega)
            have HZ0 := hid hz
            clear hz hdis hd
            gi_wp2
            refine ⟨fun _ h => (by cases h), ?_⟩
            gi_wp2
            go_roundw
            case rel => exact ⟨j + 1, by omega, by go_num, by rw [HTJ.out]; exact HS6.out⟩
            case measure => simp [intOf]; omega
        · have hje : j = xs.length - (k + 1) := by omega
          subst hje
          have HSJ := hid hsw
          clear hsw
          gi_wp2
          go_roundw
          case rel => exact ⟨k + 1, by omega, by go_num, by rw [HTZ.out]; exact HSJ.out⟩
          case measure => simp [intOf]; omega
    · have hke : k = xs.length := by omega
      subst hke
      have HSW := hid hsw
      have kc := (hsw.kq.cell hAC).trans k0
      have ky := (hsw.kq.cell hAY).trans hcy
      have HWR := hid hsw.kq.size
      clear hsw hxl
      gi_wp2_with (refine ⟨trivial, fun _ => by omega, ?_⟩; refine (coalitionsOf_in _ N 3 wr).mono ?_; rintro e w' ⟨rfl, rfl⟩)
      obtain ⟨V2, hV2⟩ : ∃ V2, (wr.alloc (.cells #[.int .i64 (N : Nat)] 3)).alloc (.cells #[.int .i64 3] 3) = V2 := ⟨_, rfl⟩
      have hVs : V2.heap.size = wr.heap.size + 2 := by rw [← hV2]; simp
      have hVb : Below wr.heap.size wr V2 := by rw [← hV2]; exact ((Below.refl _ _).alloc (Nat.le_refl _) _).alloc (by simp) _
      have v0 : V2.cell? ⟨wr.heap.size, 0, none⟩ = some (.int .i64 (N : Nat)) := by
        have h1 : (wr.alloc (.cells #[.int .i64 (N : Nat)] 3)).cell? ⟨wr.heap.size, 0, none⟩ = some (.int .i64 (N : Nat)) := by rw [World.cell?_alloc_at _ _ _ _ rfl]; rfl
        rw [← hV2]
        exact Lib.cell?_alloc_some _ h1
      have v1 : V2.cell? ⟨wr.heap.size + 1, 0, none⟩ = some (.int .i64 (3 : Nat)) := by rw [← hV2, World.cell?_alloc_at _ _ _ _ (by simp)]; rfl
      obtain ⟨pre, hpre, hJr⟩ := HSW.out.st
      have hJV : J pre (fun i => (i = wr.heap.size ∨ i = wr.heap.size + 1) ∨ A1 i) V2 := HJ.out _ _ _ _ _ hJr ((M.al_below hVb).mark (fun i hi => .inr hi) (by
        rintro i ((rfl | rfl) | hi)
        · right; omega
        · right; omega
        · exact .inl hi))
      have hA1r : ∀ i, A1 i → i < wr.heap.size := fun i hi => by have := HA1.out i hi; have := HWR.out; omega
      have hOV : M.Old A1 wr (fun i => i = wr.heap.size ∨ i = wr.heap.size + 1) V2 := ⟨fun i hi => by
        have hl := hA1r i hi
        exact ⟨by omega, hVb.block i hl, hl⟩, hVb.size⟩
      have HA1R := hid hA1r
      have HPRE := hid hpre
      have HJV := hid hJV
      have HOV := hid hOV
      have HVS := hid hVs
      have hU1 : ∀ o o', ((V2.alloc o).alloc o').cell? ⟨wr.heap.size, 0, none⟩ = some (.int .i64 (N : Nat)) := fun o o' => Lib.cell?_alloc_some _ (Lib.cell?_alloc_some _ v0)
      have hU2 : ∀ o o', ((V2.alloc o).alloc o').cell? ⟨wr.heap.size + 1, 0, none⟩ = some (.int .i64 (3 : Nat)) := fun o o' => Lib.cell?_alloc_some _ (Lib.cell?_alloc_some _ v1)
      clear hJV hOV hpre hJr hA1r v0 v1 hVb
      rw [hV2]
      clear hV2
      have hmix : Tryd.prog.follows .mixedOrders = true := by kernel_rfl
      refine M.range rfl (by omega) (gf := 86) (lb := #[.pointer (some ⟨wr.heap.size + 1, 0, none⟩), .pointer (some ⟨wr.heap.size, 0, none⟩)]) rfl trivial (enters_of Tryd.func86 (by kernel_rfl) rfl)
        (coalitionsOf1_seq (n - 1) (by omega) (wr.heap.size + 1) wr.heap.size 3 N (by omega) (by omega) hN) (M.RNk.put 3 N) (fun _ => rfl)
        (fun i => i = wr.heap.size ∨ i = wr.heap.size + 1) (by rintro i (rfl | rfl) <;> omega) (fun o o' => ⟨.inr rfl, .inl rfl, hU2 o o', hU1 o o'⟩)
        (fun pre' Ai X => (∃ ds : List M.Dx, ds.map M.lab = (pre'.map (·.l)).map M.tri ∧ J (pre ++ ds) (fun i => Ai i ∨ A1 i) X) ∧ M.Old A1 wr Ai X)
        (fun c pre' Ai X => c = .ret ∧ (∃ ds : List M.Dx, ds.map M.lab = (pre'.map (·.l)).map M.tri ∧ Jx (pre ++ ds) (fun i => Ai i ∨ A1 i) X) ∧ M.Old A1 wr Ai X)
        (fun _ _ _ _ _ h k => by
          obtain ⟨⟨ds, h1, h2⟩, h3⟩ := h
          exact ⟨⟨ds, h1, HJ.out _ _ _ _ _ h2 k.union⟩, h3.al k⟩)
        (fun _ _ _ _ _ _ h k => by
          obtain ⟨h0, ⟨ds, h1, h2⟩, h3⟩ := h
          exact ⟨h0, ⟨ds, h1, HJX.out _ _ _ _ _ h2 k.union⟩, h3.al k⟩)
        ⟨⟨[], rfl, by rw [List.append_nil]; exact HJV.out⟩, HOV.out⟩
        (fun x => { tmps := #[.func (.yield l) #[] #[], .pointer (some ⟨bc, 0, none⟩), .pointer (some ⟨bY, 0, none⟩), .slice a0 xs.length cap0, u4, u5, undef, u7, u8, .slice (some ⟨x.g, 0, none⟩) x.l.length x.cap, .int .i64 (N : Nat), .func (.func 71) #[] #[.pointer (some ⟨W1.heap.size + 1, 0, none⟩), .pointer (some ⟨W1.heap.size, 0, none⟩)], .slice a0 xs.length cap0, .slice a0 xs.length cap0, .int .i64 (xs.length : Nat), .int .i64 (xs.length : Nat), .bool false, u17, u18, u19, u20, u21, u22, u23, u24, u25, u26, u27, u28, u29, u30, u31, u32, u33, u34, u35, u36, u37, u38, u39, u40, u41, u42, u43, .int .i64 (N : Nat), .func (.func 86) #[] #[.pointer (some ⟨wr.heap.size + 1, 0, none⟩), .pointer (some ⟨wr.heap.size, 0, none⟩)], .slice (some ⟨x.g, 0, none⟩) x.l.length x.cap, undef, undef, undef, undef, undef, undef, undef, undef, undef, undef, undef, undef, undef], defers := [] })
        ?assign ?body ?done ?stop (M.RNk.cells 3 N)
      case assign =>
        intro li x X K hK
        unfold M.encC
        gi_wp2
        exact hK
      case body =>
        rintro li pre' x Ai X ⟨⟨ds, hds, hJ'⟩, hO'⟩ hR hx hAlt hlen
        have hcY := (hO'.cell (o := 0) hAY).trans ky
        obtain ⟨gx, capx, L⟩ := x
        have hL3 : L.length = 3 := hR.2
        obtain ⟨p, q, r, rfl⟩ : ∃ p q r, L = [p, q, r] := by
          match L, hL3 with
          | [p, q, r], _ => exact ⟨p, q, r, rfl⟩
        have hasc : M.asc 0 N [p, q, r] := hR.1.2.1
        obtain ⟨-, -, h1, -, h2, h3, -⟩ := hasc
        have h1' : p < q := h1
        have h2' : q < r := h2
        have hrd := hR.1.1.rd
        have hcp : X.cell? ⟨gx, 0, none⟩ = some (.int .i64 (p : Nat)) := by
          obtain ⟨b, o, e, hc⟩ := M.num hrd (i := 0) (by show 0 < 3; omega)
          simp only [Option.some.injEq, Addr.mk.injEq, and_true] at e
          obtain ⟨rfl, rfl⟩ := e
          exact hc
        have hcq : X.cell? ⟨gx, 1, none⟩ = some (.int .i64 (q : Nat)) := by
          obtain ⟨b, o, e, hc⟩ := M.num hrd (i := 1) (by show 1 < 3; omega)
          simp only [Option.some.injEq, Addr.mk.injEq, and_true] at e
          obtain ⟨rfl, rfl⟩ := e
          exact hc
        have hcr : X.cell? ⟨gx, 2, none⟩ = some (.int .i64 (r : Nat)) := by
          obtain ⟨b, o, e, hc⟩ := M.num hrd (i := 2) (by show 2 < 3; omega)
          simp only [Option.some.injEq, Addr.mk.injEq, and_true] at e
          obtain ⟨rfl, rfl⟩ := e
          exact hc
        have HP := hid (fun w => pairs_any p q r N w h1' h2' h3)
        have HJ' := hid hJ'
        have HYY := hid (fun (w3 : World) (x3 : M.Dx) (hb : Below X.heap.size X w3) (hrd : M.RD N x3 w3) (hbk : ∀ k, M.BkD x3 k → X.heap.size ≤ k) => HY.out (pre ++ ds) x3 (fun i => Ai i ∨ A1 i) w3 (HJ.out _ _ _ _ _ HJ'.out (M.al_below hb)) hrd (fun i hi => by
          have e1 := hbk i hi
          have e2 := hO'.2
          have e3 := HWR.out
          have e4 := HWB.out
          have e5 := HS1.out
          refine ⟨?_, by omega⟩
          rintro (h | h)
          · have := hAlt i h; omega
          · have := HA1R.out i h; omega) (by
          have e2 := hO'.2
          have e6 := hb.size
          rintro i (h | h)
          · have := hAlt i h; omega
          · have := HA1R.out i h; omega) (by
          have e7 : ds.length = pre'.length := by
            have := congrArg List.length hds
            simpa using this
          have e8 : pre.length ≤ 2000 := by
            obtain ⟨Z, hZ⟩ := M.sus_tri (N := N) (j := 0)
            rw [HSS.out, HSL.out] at hZ
            have := M.pre_len hN hZ
            rw [List.length_append, ← HPRE.out, List.length_map] at this
            omega
          rw [List.length_append]
          omega))
        have HDS := hid hds
        have HO' := hid hO'
        have HX := hid hx
        have HAL := hid hAlt
        have HLEN := hid hlen
        clear hJ' hds hO' hx hAlt hlen hrd hR hL3 h1 h2 h3 h1' h2'
        have hn1 : 1 ≤ n - 1 - 1 := by omega
        gi_wp2_with fail
        obtain ⟨SX, hSXe⟩ : ∃ SX : World → Prop, SX = fun w => w.cell? ⟨bY, 0, none⟩ = some (.func (.yield l) #[] #[]) ∧ w.cell? ⟨gx, 0, none⟩ = some (.int .i64 (p : Nat)) ∧ w.cell? ⟨gx, 1, none⟩ = some (.int .i64 (q : Nat)) ∧ w.cell? ⟨gx, 2, none⟩ = some (.int .i64 (r : Nat)) := ⟨_, rfl⟩
        have hSX : SX X.drew := by rw [hSXe]; exact ⟨hcY, hcp, hcq, hcr⟩
        have hSf : ∀ w, SX w → w.cell? ⟨bY, 0, none⟩ = some (.func (.yield l) #[] #[]) ∧ w.cell? ⟨gx, 0, none⟩ = some (.int .i64 (p : Nat)) ∧ w.cell? ⟨gx, 1, none⟩ = some (.int .i64 (q : Nat)) ∧ w.cell? ⟨gx, 2, none⟩ = some (.int .i64 (r : Nat)) := fun w h => by rw [hSXe] at h; exact h
        refine M.region SX hmix ?_
        refine M.anyS.take (i := 0) (v := ?_) rfl (by kernel_rfl) (by kernel_rfl) (by kernel_rfl) (by kernel_rfl) (fun _ _ _ h => h) ⟨by rfl, ?_, fun _ => rfl⟩ hSX ?_
        rotate_left
        · intro w hw
          obtain ⟨s0, s1, s2, s3⟩ := hSf w hw
          go_simp
          try with_reducible rfl
        refine M.anyS.take (i := 1) (v := ?_) rfl (by kernel_rfl) (by kernel_rfl) (by kernel_rfl) (by kernel_rfl) (fun _ _ _ h => h) ⟨by rfl, ?_, fun _ => rfl⟩ hSX ?_
        rotate_left
        · intro w hw
          obtain ⟨s0, s1, s2, s3⟩ := hSf w hw
          go_simp
          try with_reducible rfl
        refine M.anyS.take (i := 2) (v := ?_) rfl (by kernel_rfl) (by kernel_rfl) (by kernel_rfl) (by kernel_rfl) (fun _ _ _ h => h) ⟨by rfl, ?_, fun _ => rfl⟩ hSX ?_
        rotate_left
        · intro w hw
          obtain ⟨s0, s1, s2, s3⟩ := hSf w hw
          go_simp
          try with_reducible rfl
        refine M.anyS.take (i := 3) (v := ?_) rfl (by kernel_rfl) (by kernel_rfl) (by kernel_rfl) (by kernel_rfl) (fun _ _ _ h => h) ⟨by rfl, ?_, fun _ => rfl⟩ hSX ?_
        rotate_left
        · intro w hw
          obtain ⟨s0, s1, s2, s3⟩ := hSf w hw
          go_simp
          try with_reducible rfl
        refine M.anyS.take (i := 4) (v := ?_) rfl (by kernel_rfl) (by kernel_rfl) (by kernel_rfl) (by kernel_rfl) (fun _ _ _ h => h) ⟨by rfl, ?_, fun _ => rfl⟩ hSX ?_
        rotate_left
        · intro w hw
          obtain ⟨s0, s1, s2, s3⟩ := hSf w hw
          go_simp
          try with_reducible rfl
        refine M.anyS.take (i := 5) (v := ?_) rfl (by kernel_rfl) (by kernel_rfl) (by kernel_rfl) (by kernel_rfl) (fun _ _ _ h => h) ⟨by rfl, ?_, fun _ => rfl⟩ hSX ?_
        rotate_left
        · intro w hw
          obtain ⟨s0, s1, s2, s3⟩ := hSf w hw
          go_simp
          try with_reducible rfl
        refine M.anyS.take (i := 6) (v := ?_) rfl (by kernel_rfl) (by kernel_rfl) (by kernel_rfl) (by kernel_rfl) (fun _ _ _ h => h) ⟨by rfl, ?_, fun _ => rfl⟩ hSX ?_
        rotate_left
        · intro w hw
          obtain ⟨s0, s1, s2, s3⟩ := hSf w hw
          go_simp
          try with_reducible rfl
        refine M.anyS.take (i := 7) (v := ?_) rfl (by kernel_rfl) (by kernel_rfl) (by kernel_rfl) (by kernel_rfl) (fun _ _ _ h => h) ⟨by rfl, ?_, fun _ => rfl⟩ hSX ?_
        rotate_left
        · intro w hw
          obtain ⟨s0, s1, s2, s3⟩ := hSf w hw
          go_simp
          try with_reducible rfl
        refine M.anyS.take (i := 8) (v := ?_) rfl (by kernel_rfl) (by kernel_rfl) (by kernel_rfl) (by kernel_rfl) (fun _ _ _ h => h) ⟨by rfl, ?_, fun _ => rfl⟩ hSX ?_
        rotate_left
        · intro w hw
          obtain ⟨s0, s1, s2, s3⟩ := hSf w hw
          go_simp
          try with_reducible rfl
        refine M.anyS.take (i := 9) (v := ?_) rfl (by kernel_rfl) (by kernel_rfl) (by kernel_rfl) (by kernel_rfl) (fun _ _ _ h => h) ⟨by rfl, ?_, fun _ => rfl⟩ hSX ?_
        rotate_left
        · intro w hw
          obtain ⟨s0, s1, s2, s3⟩ := hSf w hw
          go_simp
          try with_reducible rfl
        have hgx := (HX.out gx rfl)
        refine M.anyS.one (i := 10) (by kernel_rfl) rfl (fun K hK => ?_)
        go_simp
        refine ⟨trivial, ?_⟩
        refine (CallsIn.inRound li (callsIn_wide.2 (HP.out _))).mono ?_
        rintro e w3 ⟨x3, rfl, hrd3, hlb3, hbk3, hb3⟩
        replace hb3 := (Below.refl X.heap.size X).drew.trans hb3
        obtain ⟨fn, tmps, assign, body, hy, hRd⟩ := HYY.out w3 x3 hb3 hrd3 hbk3
        simp only [M.encD] at hy
        have HLB3 := hid hlb3
        have HB3 := hid hb3
        have hS3 : SX w3 := by
          rw [hSXe]
          exact ⟨cell_stays hb3 (Nat.le_refl _) hcY, cell_stays hb3 (Nat.le_refl _) hcp, cell_stays hb3 (Nat.le_refl _) hcq, cell_stays hb3 (Nat.le_refl _) hcr⟩
        refine hK _ _ hS3 ?_
        clear hK K hrd3 hlb3 hbk3 hb3
        refine M.anyS.one (i := 11) (by kernel_rfl) rfl (fun K hK => ?_)
        go_simp
        have hgl : W.heap.size ≤ gx ∧ gx < w3.heap.size := by
          have e1 := hgx.2
          have e2 := HVS.out
          have e3 := HWR.out
          have e4 := HWB.out
          have e5 := HS1.out
          have e6 : gx < X.heap.size := World.block_lt_of_cell? _ _ hcp
          have e7 := HB3.out.size
          exact ⟨by omega, by omega⟩
        have HSW4 : Hid (∀ W4, M.Kw W.heap.size (fun i => Ai i ∨ A1 i) w3 W4 → SX W4) := hid (fun W4 hk4 => by
          rw [hSXe] at hS3 ⊢
          have e1 : W4.cell? ⟨bY, 0, none⟩ = w3.cell? ⟨bY, 0, none⟩ := World.cell?_of_block (hk4.same bY (.inl (.inr hAY)))
          have e2 := hk4.same gx (.inr hgl)
          exact ⟨e1.trans hS3.1, (World.cell?_of_block e2).trans hS3.2.1, (World.cell?_of_block e2).trans hS3.2.2.1, (World.cell?_of_block e2).trans hS3.2.2.2⟩)
        have HKQ : Hid (∀ W4, M.Kw W.heap.size (fun i => Ai i ∨ A1 i) w3 W4 → M.Kq (fun i => Ai i ∨ A1 i) X W4) := hid (fun W4 hk4 => (M.Kq.of_below HB3.out (by
          rintro i (h | h)
          · exact HAL.out i h
          · have := HA1R.out i h; have := HO'.out.2; omega)).trans (hk4.weak fun _ h => .inl h))
        have HDX : Hid ((ds ++ [x3]).map M.lab = ((pre' ++ [(⟨gx, capx, [p, q, r]⟩ : M.Cx)]).map (·.l)).map M.tri) := hid (by
          rw [List.map_append, List.map_append, List.map_append, HDS.out]
          show _ ++ [M.lab x3] = _ ++ [M.tri [p, q, r]]
          rw [HLB3.out])
        refine (M.roundAny hRd).mono ?_
        rintro e W4 (⟨rfl, hJ4, hk4⟩ | ⟨rfl, hJ4, hk4⟩)
        · have HJ4 := hid hJ4
          have HK4 := hid (HKQ.out W4 hk4)
          refine hK _ _ (HSW4.out W4 hk4) ?_
          have hS4 := HSW4.out W4 hk4
          clear hK K hJ4 hk4 hRd hy
          refine M.anyS.one (i := 12) (by kernel_rfl) rfl (fun K hK => ?_)
          go_simp
          refine hK _ _ hS4 ?_
          clear hK K
          refine M.anyS.done (by kernel_rfl) ?_ _
          gi_wp2
          exact ⟨HK4.out.weak fun _ h => .inl h, ⟨ds ++ [x3], HDX.out, by rw [← List.append_assoc]; exact HJ4.out⟩, HO'.out.kq HK4.out⟩
        · have HJ4 := hid hJ4
          have HK4 := hid (HKQ.out W4 hk4)
          refine hK _ _ (HSW4.out W4 hk4) ?_
          have hS4 := HSW4.out W4 hk4
          clear hK K hJ4 hk4 hRd hy
          refine M.anyS.one (i := 12) (by kernel_rfl) rfl (fun K hK => ?_)
          go_simp
          refine hK _ _ hS4 ?_
          clear hK K
          refine M.anyS.done (by kernel_rfl) ?_ _
          gi_wp2
          exact ⟨HK4.out.weak fun _ h => .inl h, rfl, ⟨ds ++ [x3], HDX.out, by rw [← List.append_assoc]; exact HJ4.out⟩, HO'.out.kq HK4.out⟩
      case done =>
        rintro D ys Ai X hAD hS ⟨⟨ds, hds, hJ'⟩, hO'⟩ hAlt hD
        have HJ' := hid hJ'
        have HO' := hid hO'
        have HAL := hid hAlt
        have HS := hid hS
        have HDS := hid hds
        clear hJ' hO' hAlt hS hds
        gi_wp2
        refine M.leave [D] X (fun E hE => by rw [List.mem_singleton.1 hE]; exact hD) (by simp) ⟨_, results_none rfl _ _ _, ⟨_, rfl⟩, .inl ⟨pre ++ ds, fun i => Ai i ∨ A1 i, ?_, HJ.out _ _ _ _ _ HJ'.out (M.shut_al [D] X fun E hE => by rw [List.mem_singleton.1 hE]; exact .inl hAD), ?_⟩⟩
        · rw [List.map_append, HPRE.out, HDS.out, HS.out]
          unfold M.sus
          rw [HSS.out, HSL.out]
        · rw [M.shut_size]
          rintro i (h | h)
          · exact HAL.out i h
          · have := HA1R.out i h; have := HO'.out.2; omega
      case stop =>
        rintro D c' pre' Ai X hAD ⟨j, hj, hjm⟩ ⟨rfl, ⟨ds, hds, hJ'⟩, hO'⟩ hD
        have HJ' := hid hJ'
        have HO' := hid hO'
        have HJM := hid hjm
        have HDS := hid hds
        clear hJ' hO' hds hjm
        gi_wp2
        refine M.leave [D] X (fun E hE => by rw [List.mem_singleton.1 hE]; exact hD) (by simp) ⟨_, results_none rfl _ _ _, ⟨_, rfl⟩, .inr ⟨pre ++ ds, fun i => Ai i ∨ A1 i, ?_, HJX.out _ _ _ _ _ HJ'.out (M.shut_al [D] X fun E hE => by rw [List.mem_singleton.1 hE]; exact .inl hAD)⟩⟩
        obtain ⟨Z, hZ⟩ := M.sus_tri (N := N) (j := j + 1)
        refine ⟨Z, ?_⟩
        rw [hZ, List.map_append, HPRE.out, HDS.out, HJM.out, HSS.out, HSL.out]
end Go.Proofs.YthnklabdjaiplaaDoor
