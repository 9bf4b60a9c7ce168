/- Package mark: Doubtful. -/
import Derived.Test.YthnklabdjaiplaaDoorMDbA
namespace Go.Proofs.YthnklabdjaiplaaDoor
open Go.RowKit Go.Shelf
attribute [local go_sem] Oper.semAt_some

def M.toL (cs : List (List Nat)) : List (List Int) := cs.map M.toI
/-- The first doubt. -/
def M.dbt (T : List (List Int)) : Option (List (List Nat)) := (M.sus T.length).find? fun cs => (M.comV T (M.toL cs)).2
def M.dbR (T : List (List Int)) : Option (List (List Nat)) → (List Int × List (List Int)) × Int
  | some cs => (((M.comV T (M.toL cs)).1, M.toL cs), 0)
  | none => (([], []), 14)
def M.dbV (m : Int) (T : List (List Int)) : (List Int × List (List Int)) × Int := if M.chk m T = 0 then M.dbR T (M.dbt T) else (([], []), M.chk m T)

/-- A doubt that is handed back, with an error. -/
def M.DE (r : (List Int × List (List Int)) × Int) (w : World) (e : Ending) (w' : World) : Prop := ∃ a1 c1 a2 c2, e = .returned (.tuple #[.agg #[.slice a1 r.1.1.length c1, .slice a2 r.1.2.length c2], .int .i64 r.2]) ∧ RdI w' a1 r.1.1 ∧ RdM w' a2 r.1.2 ∧ Below w.heap.size w w'

/-- The variables of Doubtful. -/
structure M.DS (w V : World) (m : Int) (a : Option Addr) (n c : Nat) : Prop where
  size : V.heap.size = w.heap.size + 3
  below : Below w.heap.size w V
  c0 : V.cell? ⟨w.heap.size, 0, none⟩ = some (.int .i64 m)
  c1 : V.cell? ⟨w.heap.size, 1, none⟩ = some (.slice a n c)
  b1 : M.Bx2 V (w.heap.size + 1) (.slice none 0 0) (.slice none 0 0)
  b2 : Boxed V (w.heap.size + 1 + 1) 29 (.int .i64 0)
theorem M.dsNew (w : World) (m : Int) (a : Option Addr) (n c : Nat) : ∃ V, ((w.alloc (.cells #[.int .i64 m, .slice a n c] 24)).alloc (.cells #[.slice none 0 0, .slice none 0 0] 57)).alloc (.cells #[.int .i64 0] 29) = V ∧ M.DS w V m a n c := by
  refine ⟨_, rfl, by simp, ((Below.refl _ _).alloc (Nat.le_refl _) _).alloc (by simp) _ |>.alloc (by simp; omega) _, ?_, ?_, ?_, ?_⟩
  · exact Lib.cell?_alloc_some _ (Lib.cell?_alloc_some _ (by rw [World.cell?_alloc_at _ _ _ _ rfl]; rfl))
  · exact Lib.cell?_alloc_some _ (Lib.cell?_alloc_some _ (by rw [World.cell?_alloc_at _ _ _ _ rfl]; rfl))
  · have := M.Bx2.new (w.alloc (.cells #[.int .i64 m, .slice a n c] 24)) (.slice none 0 0) (.slice none 0 0)
    rw [World.size_alloc] at this
    exact this.of_block (Below.heap_alloc _ _ _ this.lt)
  · have := Boxed.new ((w.alloc (.cells #[.int .i64 m, .slice a n c] 24)).alloc (.cells #[.slice none 0 0, .slice none 0 0] 57)) 29 (.int .i64 0)
    rw [World.size_alloc, World.size_alloc] at this
    exact this

/-- A doubt and an error stored. -/
def M.std (W : World) (b : Nat) (u v e : Value) : World := ((W.setCell ⟨b + 1, 0, none⟩ u).setCell ⟨b + 1, 1, none⟩ v).setCell ⟨b + 1 + 1, 0, none⟩ e
theorem M.std_below {n b : Nat} {w W : World} {u v e : Value} (h : Below n w W) (hb : n ≤ b) : Below n w (M.std W b u v e) :=
  ((h.setCell (p := ⟨b + 1, 0, none⟩) (by show n ≤ b + 1; omega) _).setCell (p := ⟨b + 1, 1, none⟩) (by show n ≤ b + 1; omega) _).setCell (p := ⟨b + 1 + 1, 0, none⟩) (by show n ≤ b + 1 + 1; omega) _
theorem M.std_kq {A : Nat → Prop} {X W : World} {b : Nat} {u v e : Value} (h : M.Kq A X W) (h1 : ¬ A (b + 1)) (h2 : ¬ A (b + 1 + 1)) : M.Kq A X (M.std W b u v e) :=
  ((h.trans (M.Kq.set _ _ h1)).trans (M.Kq.set _ _ h1)).trans (M.Kq.set _ _ h2)
theorem M.std_block {W : World} {b : Nat} {u v e : Value} {i : Nat} (h1 : i ≠ b + 1) (h2 : i ≠ b + 1 + 1) : (M.std W b u v e).heap[i]? = W.heap[i]? :=
  (Below.heap_setCell _ _ _ _ h2).trans ((Below.heap_setCell _ _ _ _ h1).trans (Below.heap_setCell _ _ _ _ h1))
theorem M.std_box {W : World} {b : Nat} {u v e u0 v0 e0 : Value} {t : TypeId} (h1 : M.Bx2 W (b + 1) u0 v0) (h2 : Boxed W (b + 1 + 1) t e0) : M.Bx2 (M.std W b u v e) (b + 1) u v ∧ Boxed (M.std W b u v e) (b + 1 + 1) t e :=
  ⟨(h1.set u v).of_block (Below.heap_setCell _ _ _ _ (by show b + 1 ≠ b + 1 + 1; omega)),
   (show Boxed ((W.setCell ⟨b + 1, 0, none⟩ u).setCell ⟨b + 1, 1, none⟩ v) (b + 1 + 1) t e0 from (Below.heap_setCell _ _ _ _ (show b + 1 + 1 ≠ b + 1 by omega)).trans ((Below.heap_setCell _ _ _ _ (show b + 1 + 1 ≠ b + 1 by omega)).trans h2)).set e⟩

/-- A row of one's own stays while its block does. -/
theorem M.rowKeep {w w' : World} {lo : Nat} {v : Value} {xs : List Int} (h : RowI w lo v xs) (e : ∀ i, v.ownBlock = some i → w'.heap[i]? = w.heap[i]?) : RowI w' lo v xs := by
  refine ⟨h.1, ?_⟩
  rcases h.2 with h1 | ⟨g, cap, cur, rfl, h1, h2, h3⟩
  · exact .inl h1
  · exact .inr ⟨g, cap, cur, rfl, h1, (e g rfl).trans h2, h3⟩

theorem M.find_pre {α β : Type} {f : α → β} {p : β → Bool} {xs : List α} {x : α} {S Z : List β} (h : S = (xs ++ [x]).map f ++ Z) (hn : ∀ y, y ∈ xs → p (f y) = false) (hy : p (f x) = true) : S.find? p = some (f x) := by
  rw [h, List.find?_append, List.map_append, List.find?_append, M.find_none (f := f) rfl hn]
  simp [hy]

set_option maxHeartbeats 4000000 in
set_option maxRecDepth 100000 in
theorem Doubtful_in (n : Nat) (hn : 10 ≤ n) (m : Int) (a : Option Addr) (c : Nat) (T : List (List Int)) (w : World) (hm : T.length ≤ maxLen) (hml : ∀ i, i < T.length → (T.getD i []).length ≤ maxLen) (hT : RdM w a T) :
    CallsIn Fence.wide n Tryd.prog 31 #[M.cv m a T.length c] w (M.DE (M.dbV m T) w) := by
  obtain ⟨V, hV, hS⟩ := M.dsNew w m a T.length c
  have HS := hid hS
  have HC := hid (check_any m a c T V hm hml (hT.stays hS.below))
  have HT := hid (hT.stays hS.below)
  have HT0 := hid hT
  have k0 := hS.c0
  have k1 := hS.c1
  clear hT hS
  unfold M.cv at *
  refine callsIn_of_wp_marks Tryd.func31 rfl trivial ?_ rfl
  simp only [Tryd.ntmps31, List.size_toArray, List.length_cons, List.length_nil, Nat.reduceAdd, Nat.reduceSub, Array.replicate_succ, Array.replicate_zero, List.push_toArray, List.append_toArray, List.nil_append, List.cons_append]
  by_cases h0 : M.chk m T = 0
  · have HOK := hid (M.chk_zero.1 h0)
    have HV : Hid (M.dbV m T = M.dbR T (M.dbt T)) := hid (by unfold M.dbV; rw [if_pos h0])
    rw [h0] at HC
    clear h0
    gi_wp2_with fail
    rw [hV] at *
    clear hV
    refine ⟨trivial, fun _ => by omega, ?_⟩
    refine (callsIn_wide.2 HC.out).mono ?_
    rintro e W1 ⟨rfl, hb1⟩
    have x0 := cell_stays hb1 (Nat.le_refl _) k0
    have x1 := cell_stays hb1 (Nat.le_refl _) k1
    have HX1 := hid (HS.out.b1.of_block (hb1.block _ HS.out.b1.lt))
    have HX2 := hid (M.bxBelow HS.out.b2 hb1)
    have HB1 := hid (HS.out.below.trans (hb1.mono HS.out.below.size))
    have HS1 : Hid (w.heap.size + 3 ≤ W1.heap.size) := hid (by have := hb1.size; have := HS.out.size; omega)
    clear hb1 k0 k1 HC HT HS
    gi_wp2_with (refine ⟨trivial, fun _ => by omega, ?_⟩; refine (suspects_in _ T.length W1).mono ?_; rintro e w' ⟨rfl, rfl⟩)
    obtain ⟨V0, hV0⟩ : ∃ V0, W1.alloc (.cells #[.int .i64 (T.length : Nat)] 3) = V0 := ⟨_, rfl⟩
    have hVs : V0.heap.size = W1.heap.size + 1 := by rw [← hV0]; simp
    have hVb : Below W1.heap.size W1 V0 := by rw [← hV0]; exact (Below.refl _ _).alloc (Nat.le_refl _) _
    have v0 : V0.cell? ⟨W1.heap.size, 0, none⟩ = some (.int .i64 (T.length : Nat)) := by rw [← hV0, World.cell?_alloc_at _ _ _ _ rfl]; rfl
    have hV1 : ∀ o o', ((V0.alloc o).alloc o').cell? ⟨W1.heap.size, 0, none⟩ = some (.int .i64 (T.length : Nat)) := fun o o' => Lib.cell?_alloc_some _ (Lib.cell?_alloc_some _ v0)
    have hKP : M.Kp V0 (fun i => i < W1.heap.size) (fun i => i = W1.heap.size) V0 := M.Kp.refl (fun i hi => by omega)
    have z0 := cell_stays hVb (Nat.le_refl _) x0
    have z1 := cell_stays hVb (Nat.le_refl _) x1
    have HY1 := hid (HX1.out.of_block (hVb.block _ HX1.out.lt))
    have HY2 := hid (M.bxBelow HX2.out hVb)
    have HB2 := hid (HB1.out.trans (hVb.mono HB1.out.size))
    have h10 := HOK.out.n10
    have HVB := hid hVb
    rw [hV0]
    clear hV0 x0 x1 HX1 HX2 hVb v0
    refine M.rangeK rfl (by omega) (gf := 75) (lb := #[.pointer (some ⟨W1.heap.size, 0, none⟩)]) rfl trivial (enters_of Tryd.func75 (by kernel_rfl) rfl)
      (suspects1_seq (n - 1) (by omega) W1.heap.size T.length h10) (M.RD.put T.length) (fun _ => rfl)
      (fun i => i = W1.heap.size) (by rintro i rfl; omega) (fun o o' => ⟨rfl, hV1 o o'⟩)
      (fun pre A X => M.Kp V0 (fun i => i < W1.heap.size) A X ∧ ∀ x, x ∈ pre → (M.comV T (M.toL (M.lab x))).2 = false)
      (fun c pre A X => c = .ret ∧ ∃ pre' x, pre = pre' ++ [x] ∧ (∀ y, y ∈ pre' → (M.comV T (M.toL (M.lab y))).2 = false) ∧ (M.comV T (M.toL (M.lab x))).2 = true ∧ ∃ Y v, M.RD T.length x Y ∧ RowI Y 0 v (M.comV T (M.toL (M.lab x))).1 ∧ M.Bx2 Y (w.heap.size + 1) v (.slice (some ⟨x.g, 0, none⟩) x.xs.length x.xs.length) ∧ Boxed Y (w.heap.size + 1 + 1) 29 (.int .i64 0) ∧ Below w.heap.size w Y ∧ M.Kp Y (fun i => i < w.heap.size ∨ i = w.heap.size + 1 ∨ i = w.heap.size + 1 + 1 ∨ M.BkD x i ∨ v.ownBlock = some i) A X)
      (fun _ _ _ _ _ h k => ⟨h.1.al k, h.2⟩) (fun _ _ _ _ _ _ h k => by
        obtain ⟨h1, pre', x, h2, h3, h4, Y, v, h5, h6, h7, h8, h9, h10⟩ := h
        exact ⟨h1, pre', x, h2, h3, h4, Y, v, h5, h6, h7, h8, h9, h10.al k⟩)
      ⟨hKP, fun x hx => by simp at hx⟩
      (fun x => { tmps := #[.agg #[.int .i64 m, .slice a T.length c], .pointer (some ⟨w.heap.size, 0, none⟩), .pointer (some ⟨w.heap.size + 1, 0, none⟩), .pointer (some ⟨w.heap.size + 1 + 1, 0, none⟩), .int .i64 0, .slice (some ⟨x.g, 0, none⟩) x.xs.length x.xs.length, undef, undef, .agg #[.int .i64 m, .slice a T.length c], .int .i64 0, .int .i64 0, .bool false, undef, undef, .pointer (some ⟨w.heap.size, 1, none⟩), .slice a T.length c, .int .i64 (T.length : Nat), .func (.func 75) #[] #[.pointer (some ⟨W1.heap.size, 0, none⟩)], .slice (some ⟨x.g, 0, none⟩) x.xs.length x.xs.length, undef, undef, undef, undef, undef, undef, undef, undef, undef, undef, undef], defers := [] })
      ?assign ?body ?done ?stop (M.RD.cells T.length)
    case assign =>
      intro li x X K hK
      unfold M.encD
      gi_wp2
      exact hK
    case body =>
      rintro li pre x A X ⟨hKp, hno⟩ hR hx hAlt hlen
      have y0 := (hKp.cell (o := 0) (show w.heap.size < W1.heap.size by have := HS1.out; omega)).trans z0
      have y1 := (hKp.cell (o := 1) (show w.heap.size < W1.heap.size by have := HS1.out; omega)).trans z1
      have HBX : Hid (Below w.heap.size w X) := hid (HB2.out.trans (hKp.below (fun i hi => by have := HS1.out; omega)))
      have hTL : M.toL (M.lab x) = x.xs.map fun c => M.toI c.l := by unfold M.toL M.lab; rw [List.map_map]; rfl
      have hLl : (M.toL (M.lab x)).length = x.xs.length := by rw [hTL, List.length_map]
      have hLg : ∀ i (h : i < (M.toL (M.lab x)).length), ∃ c, c ∈ x.xs ∧ (M.toL (M.lab x)).getD i [] = M.toI c.l := fun i h => by
        rw [hLl] at h
        refine ⟨x.xs[i], List.getElem_mem h, ?_⟩
        rw [hTL, List.getD_eq_getElem?_getD, List.getElem?_map, List.getElem?_eq_getElem h]
        rfl
      have HCN := hid (commonCopy_any m a c T x.g (M.toL (M.lab x)) X HOK.out (by rw [hLl]; exact hR.n2) (by rw [hLl]; have := hR.n3; omega) (fun i hi => by
        obtain ⟨c, hc, e⟩ := hLg i hi
        rw [e, M.toI_len]
        have := (hR.ok c hc).2
        omega) (fun i hi => by
        obtain ⟨c, hc, e⟩ := hLg i hi
        rw [e]
        intro y hy
        unfold M.toI at hy
        obtain ⟨z, hz, rfl⟩ := List.mem_map.1 hy
        have := M.asc_lt (hR.ok c hc).1 z hz
        omega) (HT0.out.stays HBX.out) (by rw [hTL]; exact hR.rd))
      rw [hLl] at HCN
      unfold M.cv at HCN
      have HKP := hid hKp
      have HNO := hid hno
      have HR := hid hR
      have HX := hid hx
      have HAL := hid hAlt
      clear hKp hno hR hx hAlt hTL hLl hLg
      cases hr : (M.comV T (M.toL (M.lab x))).2 with
      | false =>
        rw [hr] at HCN
        have HRR := hid hr
        clear hr
        gi_wp2_with fail
        refine ⟨trivial, fun _ => by omega, ?_⟩
        refine (CallsIn.inRound li (callsIn_wide.2 HCN.out)).mono ?_
        rintro e W5 ⟨v, rfl, -, hb5⟩
        have HB5 := hid hb5
        clear hb5
        gi_wp2
        exact ⟨M.Kq.of_below HB5.out (fun k hk => by
          rcases hk with hk | hk
          · exact HAL.out k hk
          · exact hk.2), HKP.out.stays HB5.out, fun y hy => by
          rcases List.mem_append.1 hy with h | h
          · exact HNO.out y h
          · rw [List.mem_singleton.1 h]; exact HRR.out⟩
      | true =>
        rw [hr] at HCN
        have HRR := hid hr
        clear hr
        gi_wp2_with fail
        refine ⟨trivial, fun _ => by omega, ?_⟩
        refine (CallsIn.inRound li (callsIn_wide.2 HCN.out)).mono ?_
        rintro e W5 ⟨v, rfl, hro, hb5⟩
        obtain ⟨a1, cc1, rfl, -⟩ := hro.rd
        have hs1 := HS1.out
        have hx1 := (HY1.out.of_block (HKP.out.old.1 (w.heap.size + 1) (by omega)).2.1)
        have hx2 : Boxed X (w.heap.size + 1 + 1) 29 (.int .i64 0) := (HKP.out.old.1 _ (by omega)).2.1.trans HY2.out
        have hq1 := hx1.of_block (hb5.block _ hx1.lt)
        have hq2 := M.bxBelow hx2 hb5
        have x1 := hq1.cell0
        have x2 := hq1.cell1
        have g0 := hq1.fz 0
        have g1 := hq1.fz 1
        have x3 := hq2.cell
        have f3 := hq2.frozen
        have HB5 := hid hb5
        have HQ1 := hid hq1
        have HQ2 := hid hq2
        have HRO := hid hro
        clear hb5 hx1 hx2 hq1 hq2 hro
        obtain ⟨wd, hwd⟩ : ∃ wd, (M.comV T (M.toL (M.lab x))).1 = wd := ⟨_, rfl⟩
        rw [hwd] at HRO
        rw [hwd]
        have HWD := hid hwd
        clear hwd
        gi_wp2
        have hz := M.std_box (u := .slice a1 wd.length cc1) (v := .slice (some ⟨x.g, 0, none⟩) x.xs.length x.xs.length) (e := .int .i64 0) HQ1.out HQ2.out
        have hE := HKP.out.old.1
        have hP : ∀ i, i < W1.heap.size → ¬ (A i ∨ (V0.heap.size + 2 ≤ i ∧ i < X.heap.size)) := fun i hi h => by
          rcases h with h | h
          · exact (hE i hi).1 h
          · omega
        have hkq : M.Kw (V0.heap.size + 2) A X (M.std W5 w.heap.size (.slice a1 wd.length cc1) (.slice (some ⟨x.g, 0, none⟩) x.xs.length x.xs.length) (.int .i64 0)) :=
          M.std_kq (M.Kq.of_below HB5.out (fun k hk => by
            rcases hk with hk | hk
            · exact HAL.out k hk
            · exact hk.2)) (hP _ (by omega)) (hP _ (by omega))
        have hbz : Below w.heap.size w (M.std W5 w.heap.size (.slice a1 wd.length cc1) (.slice (some ⟨x.g, 0, none⟩) x.xs.length x.xs.length) (.int .i64 0)) :=
          M.std_below (HBX.out.trans (HB5.out.mono HBX.out.size)) (Nat.le_refl _)
        have hrd : M.RD T.length x (M.std W5 w.heap.size (.slice a1 wd.length cc1) (.slice (some ⟨x.g, 0, none⟩) x.xs.length x.xs.length) (.int .i64 0)) :=
          HR.out.of_block (fun k hk => by
            have h1 := (HX.out k hk).2
            exact (M.std_block (by omega) (by omega)).trans (HB5.out.block _ (HR.out.lt hk)))
        have hown : ∀ i, (Value.slice a1 wd.length cc1).ownBlock = some i → X.heap.size ≤ i ∧ i < W5.heap.size := fun i hi => World.ownsRow.lt HRO.out i hi
        have hsX := HBX.out.size
        have hsXW : W1.heap.size ≤ X.heap.size := by have := HKP.out.old.2; omega
        have hrow : RowI (M.std W5 w.heap.size (.slice a1 wd.length cc1) (.slice (some ⟨x.g, 0, none⟩) x.xs.length x.xs.length) (.int .i64 0)) 0 (.slice a1 wd.length cc1) wd :=
          (M.rowKeep HRO.out (fun i hi => by
            have := (hown i hi).1
            exact M.std_block (by omega) (by omega))).mono (Nat.zero_le _)
        refine ⟨hkq, rfl, pre, x, rfl, HNO.out, HRR.out, _, _, hrd, by rw [HWD.out]; exact hrow, hz.1, hz.2, hbz, M.Kp.refl ?_⟩
        have hsz := hbz.size
        rintro i (hi | rfl | rfl | hi | hi)
        · exact ⟨(hE i (by omega)).1, by omega⟩
        · exact ⟨(hE _ (by omega)).1, hz.1.lt⟩
        · exact ⟨(hE _ (by omega)).1, hz.2.lt⟩
        · exact ⟨(HX.out i hi).1, hrd.lt hi⟩
        · have h1 := hown i hi
          refine ⟨fun h => by have := HAL.out i h; omega, ?_⟩
          have : W5.heap.size = (M.std W5 w.heap.size (.slice a1 wd.length cc1) (.slice (some ⟨x.g, 0, none⟩) x.xs.length x.xs.length) (.int .i64 0)).heap.size := by simp [M.std, World.setCell]
          omega
    case done =>
      rintro D xs A X hAD hS ⟨hKp, hno⟩ hAlt hD
      have HF : Hid (M.dbt T = none) := hid (M.find_none (f := M.lab) (p := fun cs => (M.comV T (M.toL cs)).2) hS hno)
      have HV2 : Hid (M.dbV m T = (([], []), 14)) := hid (by rw [HV.out, HF.out]; rfl)
      have hs1 := HS1.out
      have hx1 := HY1.out.of_block (hKp.old.1 (w.heap.size + 1) (by omega)).2.1
      have hx2 : Boxed X (w.heap.size + 1 + 1) 29 (.int .i64 0) := (hKp.old.1 _ (by omega)).2.1.trans HY2.out
      have x1 := hx1.cell0
      have x2 := hx1.cell1
      have g0 := hx1.fz 0
      have g1 := hx1.fz 1
      have x3 := hx2.cell
      have f3 := hx2.frozen
      have HKP := hid hKp
      have HX1 := hid hx1
      have HX2 := hid hx2
      clear hx1 hx2 hKp hno hAlt hS
      gi_wp2
      have hz := M.std_box (u := .slice none 0 0) (v := .slice none 0 0) (e := .int .i64 14) HX1.out HX2.out
      have hE := HKP.out.old.1
      have hbz : Below w.heap.size w (M.std X w.heap.size (.slice none 0 0) (.slice none 0 0) (.int .i64 14)) := M.std_below (HB2.out.trans (HKP.out.below (fun i hi => by omega))) (Nat.le_refl _)
      have hDn : ∀ i, i < W1.heap.size → i ≠ D := fun i hi e => (hE i hi).1 (e ▸ hAD)
      have hDw : w.heap.size ≤ D := Nat.le_of_not_lt fun hl => hDn D (by omega) rfl
      have hal := M.shut_al (A := A) [D] (M.std X w.heap.size (.slice none 0 0) (.slice none 0 0) (.int .i64 14)) (fun E hEE => by rw [List.mem_singleton.1 hEE]; exact hAD)
      refine M.leave [D] _ (fun E hEE => ?_) (by simp) ⟨_, M.resD rfl _ _ (w.heap.size + 1) (w.heap.size + 1 + 1) _ _ _ rfl rfl ?_ ?_, none, 0, none, 0, (by rw [HV2.out]), (by rw [HV2.out]; exact RdI.nil _ _), (by rw [HV2.out]; exact fun _ h => absurd h (Nat.not_lt_zero _)), ?_⟩
      · rw [List.mem_singleton.1 hEE]
        exact (M.std_block (hDn _ (by omega)).symm (hDn _ (by omega)).symm).trans hD
      · exact hz.1.of_block (hal.block _ hz.1.lt (hE (w.heap.size + 1) (by omega)).1)
      · exact (World.cell?_of_block (hal.block _ hz.2.lt (hE (w.heap.size + 1 + 1) (by omega)).1)).trans hz.2.cell
      · exact hbz.trans ⟨hal.os, hal.tape, hal.output, hal.size, fun i hi => hal.block i (by have := hbz.size; omega) (hE i (by omega)).1⟩
    case stop =>
      rintro D c' pre A X hAD ⟨Z, hZ⟩ ⟨rfl, pre', x, rfl, hno, hyes, Y, v, hrd, hrow, hb1, hb2, hbe, hKp⟩ hD
      have HF : Hid (M.dbt T = some (M.lab x)) := hid (M.find_pre (f := M.lab) (p := fun cs => (M.comV T (M.toL cs)).2) hZ hno hyes)
      have HV2 : Hid (M.dbV m T = (((M.comV T (M.toL (M.lab x))).1, M.toL (M.lab x)), 0)) := hid (by rw [HV.out, HF.out]; rfl)
      have HKP := hid hKp
      clear hKp hno hyes
      gi_wp2
      have hk := HKP.out.al (M.shut_al (A := A) [D] X (fun E hEE => by rw [List.mem_singleton.1 hEE]; exact hAD))
      have hrz : M.RD T.length x (M.shut [D] X) := hrd.of_block (fun i hi => (hk.old.1 i (.inr (.inr (.inr (.inl hi))))).2.1)
      have hrw : RowI (M.shut [D] X) 0 v (M.comV T (M.toL (M.lab x))).1 := M.rowKeep hrow (fun i hi => (hk.old.1 i (.inr (.inr (.inr (.inr hi))))).2.1)
      obtain ⟨a1, cc1, rfl, hrd1⟩ := hrw.rd
      have hTL : M.toL (M.lab x) = x.xs.map fun c => M.toI c.l := by unfold M.toL M.lab; rw [List.map_map]; rfl
      have hLl : (M.toL (M.lab x)).length = x.xs.length := by rw [hTL, List.length_map]
      refine M.leave [D] _ (fun E hEE => by rw [List.mem_singleton.1 hEE]; exact hD) (by simp) ⟨_, M.resD rfl _ _ (w.heap.size + 1) (w.heap.size + 1 + 1) _ _ _ rfl rfl (hb1.of_block (hk.old.1 _ (.inr (.inl rfl))).2.1) ((hk.cell (.inr (.inr (.inl rfl)))).trans hb2.cell), a1, cc1, some ⟨x.g, 0, none⟩, x.xs.length, (by rw [HV2.out, hLl]), (by rw [HV2.out]; exact hrd1), (by rw [HV2.out, hTL]; exact hrz.rd), hbe.trans (hk.below fun i hi => .inl hi)⟩
  · have HV : Hid (M.dbV m T = (([], []), M.chk m T)) := hid (by unfold M.dbV; rw [if_neg h0])
    rw [HV.out]
    have h0' : (M.chk m T == 0) = false := beq_eq_false_iff_ne.2 h0
    generalize M.chk m T = y at *
    clear h0
    gi_wp2_with fail
    rw [hV] at *
    clear hV
    refine ⟨trivial, fun _ => by omega, ?_⟩
    refine (callsIn_wide.2 HC.out).mono ?_
    rintro e W1 ⟨rfl, hb1⟩
    have hx1 := HS.out.b1.of_block (hb1.block _ HS.out.b1.lt)
    have hx2 := M.bxBelow HS.out.b2 hb1
    have x1 := hx1.cell0
    have x2 := hx1.cell1
    have g0 := hx1.fz 0
    have g1 := hx1.fz 1
    have x3 := hx2.cell
    have f3 := hx2.frozen
    have HX1 := hid hx1
    have HX2 := hid hx2
    have HB1 := hid hb1
    clear hb1 hx1 hx2
    gi_wp2
    have hz := M.std_box (u := .slice none 0 0) (v := .slice none 0 0) (e := .int .i64 y) HX1.out HX2.out
    exact ⟨_, M.resD rfl _ _ _ _ _ _ _ rfl rfl hz.1 hz.2.cell, none, 0, none, 0, rfl, RdI.nil _ _, fun _ h => absurd h (Nat.not_lt_zero _), M.std_below (HS.out.below.trans (HB1.out.mono HS.out.below.size)) (Nat.le_refl _)⟩
end Go.Proofs.YthnklabdjaiplaaDoor
