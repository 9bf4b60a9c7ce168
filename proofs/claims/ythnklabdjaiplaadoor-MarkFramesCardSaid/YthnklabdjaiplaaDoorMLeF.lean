/- Package mark: Lean. -/
import Derived.Test.YthnklabdjaiplaaDoorMFew
import Derived.Test.YthnklabdjaiplaaDoorMLea
import Derived.Test.YthnklabdjaiplaaDoorMLeaP
import Derived.Test.YthnklabdjaiplaaDoorMSort
import Derived.Maps.OwnIn
namespace Go.Proofs.YthnklabdjaiplaaDoor
open Go.RowKit Go.Shelf
attribute [local go_sem] Oper.semAt_some

/-- The lean coalitions with at most k members, ascending. -/
def M.leaL (T : List (List Int)) (l : List Int) (k : Nat) : List (List Nat) := (M.lxs T.length k).filter fun c => M.lea T (M.toI c) l
def M.leaV (m : Int) (T : List (List Int)) (l : List Int) (n : Int) : List (List Int) × Int :=
  if M.chkw m T l = 0 then (if M.sz n = 0 then ((M.leaL T l n.toNat).map M.toI, 0) else ([], M.sz n)) else ([], M.chkw m T l)

/-- Lists of numbers that are handed back, with an error. -/
def M.LM (L : List (List Int)) (err : Int) (w : World) (e : Ending) (w' : World) : Prop := ∃ a cap, e = .returned (.tuple #[.slice a L.length cap, .int .i64 err]) ∧ RdM w' a L ∧ Below w.heap.size w w'

/-- The variables of Lean. -/
structure M.LS (w V : World) (m : Int) (a : Option Addr) (n c : Nat) (aw : Option Addr) (k cw : Nat) : Prop where
  size : V.heap.size = w.heap.size + 2
  below : Below w.heap.size w V
  c0 : V.cell? ⟨w.heap.size, 0, none⟩ = some (.int .i64 m)
  c1 : V.cell? ⟨w.heap.size, 1, none⟩ = some (.slice a n c)
  c2 : V.cell? ⟨w.heap.size + 1, 0, none⟩ = some (.slice aw k cw)
theorem M.lsNew (w : World) (m : Int) (a : Option Addr) (n c : Nat) (aw : Option Addr) (k cw : Nat) : ∃ V, (w.alloc (.cells #[.int .i64 m, .slice a n c] 24)).alloc (.cells #[.slice aw k cw] 25) = V ∧ M.LS w V m a n c aw k cw := by
  refine ⟨_, rfl, by simp, ((Below.refl _ _).alloc (Nat.le_refl _) _).alloc (by simp) _, ?_, ?_, ?_⟩
  · exact Lib.cell?_alloc_some _ (by rw [World.cell?_alloc_at _ _ _ _ rfl]; rfl)
  · exact Lib.cell?_alloc_some _ (by rw [World.cell?_alloc_at _ _ _ _ rfl]; rfl)
  · rw [World.cell?_alloc_at _ _ _ _ (by simp)]; rfl

/-- The coalitions collected so far, in a row of one's own. -/
structure M.Col (bl lo : Nat) (v : Value) (xs : List M.Cx) (Y : World) : Prop where
  box : Boxed Y bl 22 v
  row : Y.ownsRow lo 25 1 v xs.length (xs.map M.enc1)
  rc : ∀ x, x ∈ xs → M.RC x Y
def M.ColE (bl : Nat) (v : Value) (xs : List M.Cx) (i : Nat) : Prop := i = bl ∨ v.ownBlock = some i ∨ ∃ x, x ∈ xs ∧ i = x.g
theorem M.Col.keep {bl lo : Nat} {v : Value} {xs : List M.Cx} {Y X : World} {A : Nat → Prop} (h : M.Col bl lo v xs Y) (k : M.Kp Y (M.ColE bl v xs) A X) : M.Col bl lo v xs X where
  box := (k.old.1 bl (.inl rfl)).2.1.trans h.box
  row := by
    refine ⟨h.row.1, ?_⟩
    rcases h.row.2 with h1 | ⟨g, cap, cur, rfl, h1, h2, h3⟩
    · exact .inl h1
    · exact .inr ⟨g, cap, cur, rfl, h1, (k.old.1 g (.inr (.inl rfl))).2.1.trans h2, h3⟩
  rc x hx := (h.rc x hx).of_block (k.old.1 x.g (.inr (.inr ⟨x, hx, rfl⟩))).2.1
theorem M.Col.lt {bl lo : Nat} {v : Value} {xs : List M.Cx} {Y : World} (h : M.Col bl lo v xs Y) : ∀ i, M.ColE bl v xs i → i < Y.heap.size := by
  rintro i (rfl | hi | ⟨x, hx, rfl⟩)
  · exact h.box.lt
  · exact (World.ownsRow.lt h.row i hi).2
  · exact (h.rc x hx).lt

theorem M.Kp.under {Y X X' : World} {E A : Nat → Prop} {n : Nat} (h : M.Kp Y E A X) (k : Below n X X') (hE : ∀ i, E i → i < n) : M.Kp Y E A X' :=
  ⟨k.os.trans h.os, k.tape.trans h.tape, k.output.trans h.output, fun i hi => ⟨(h.old.1 i hi).1, (k.block i (hE i hi)).trans (h.old.1 i hi).2.1, (h.old.1 i hi).2.2⟩, Nat.le_trans h.old.2 k.size⟩
/-- One coalition more in the row. -/
theorem M.Col.more {bl : Nat} {v v' : Value} {xs : List M.Cx} {x : M.Cx} {W w9 : World} {tmp : Obj} {A : Nat → Prop} (h : M.Col bl bl v xs W) (hx : M.RC x W)
    (hown : w9.ownsRow bl 25 1 v' (xs.length + 1) (xs.map M.enc1 ++ [M.enc1 x])) (hg : (W.alloc tmp).grownBy w9 v.ownBlock) (hat : v'.ownBlock = v.ownBlock ∨ v'.ownBlock = some (W.alloc tmp).heap.size)
    (hA : ∀ i, M.ColE bl v xs i → ¬ A i) (hAx : ¬ A x.g) (hAs : ∀ i, A i → i < W.heap.size) :
    M.Col bl bl v' (xs ++ [x]) (w9.setCell ⟨bl, 0, none⟩ v') ∧ M.Kp (w9.setCell ⟨bl, 0, none⟩ v') (M.ColE bl v' (xs ++ [x])) A (w9.setCell ⟨bl, 0, none⟩ v') ∧ M.Kq A W (w9.setCell ⟨bl, 0, none⟩ v') ∧ Below bl W (w9.setCell ⟨bl, 0, none⟩ v') := by
  obtain ⟨hv1, hv2, hr2, hk2, hb2⟩ := h.box.appended (by decide) h.row (Nat.le_of_lt h.box.lt) (Nat.le_refl _) hown hg
  have hrow2 : (w9.setCell ⟨bl, 0, none⟩ v').ownsRow bl 25 1 v' (xs ++ [x]).length ((xs ++ [x]).map M.enc1) := by rw [List.length_append, List.map_append]; exact hr2
  have keep : ∀ y : M.Cx, M.RC y W → M.RC y (w9.setCell ⟨bl, 0, none⟩ v') := fun y hy => by
    obtain ⟨cur, hc⟩ := hy.blk
    have n1 : y.g ≠ bl := fun e => by
      have hbb : W.heap[bl]? = some (.cells #[v] 22 (0, 0)) := h.box
      rw [e, hbb] at hc
      simp only [Option.some.injEq, Obj.cells.injEq] at hc
      exact absurd hc.2.1 (by decide)
    have n2 : some y.g ≠ v.ownBlock := fun e => by
      rcases h.row.2 with ⟨rfl, _⟩ | ⟨g, cap, cur', rfl, _, hg', _⟩
      · simp [Value.ownBlock] at e
      · simp only [Value.ownBlock, Option.some.injEq] at e
        rw [e, hg'] at hc
        simp only [Option.some.injEq, Obj.cells.injEq] at hc
        exact absurd hc.2.1 (by decide)
    refine hy.of_block ((Below.heap_setCell _ _ _ _ (show y.g ≠ bl from n1)).trans ((hg.block y.g (by have := hy.lt; simp; omega) n2).trans (Below.heap_alloc _ _ _ hy.lt)))
  have hcol : M.Col bl bl v' (xs ++ [x]) (w9.setCell ⟨bl, 0, none⟩ v') := ⟨hv2, hrow2, fun y hy => by
    rcases List.mem_append.1 hy with h1 | h1
    · exact keep y (h.rc y h1)
    · rw [List.mem_singleton.1 h1]; exact keep x hx⟩
  refine ⟨hcol, M.Kp.refl (fun i hi => ⟨?_, hcol.lt i hi⟩), ?_, hb2⟩
  · rcases hi with rfl | hi | ⟨y, hy, rfl⟩
    · exact hA _ (.inl rfl)
    · rcases hat with h1 | h1
      · exact hA _ (.inr (.inl (h1 ▸ hi)))
      · rw [h1] at hi
        simp only [World.size_alloc, Option.some.injEq] at hi
        exact fun ha => by have := hAs i ha; omega
    · rcases List.mem_append.1 hy with h1 | h1
      · exact hA _ (.inr (.inr ⟨y, h1, rfl⟩))
      · rw [List.mem_singleton.1 h1]; exact hAx
  · exact ((M.Kq.alloc W tmp hAs).trans (M.Kq.grown hg (fun i hi => by have := hAs i hi; simp; omega) (fun i hi => hA i (.inr (.inl hi))))).trans (M.Kq.set _ _ (hA bl (.inl rfl)))

theorem M.step_lea (T : List (List Int)) (l : List Int) (pre : List M.Cx) (x : M.Cx) : (pre ++ [x]).filter (fun x => M.lea T (M.toI x.l) l) = if M.lea T (M.toI x.l) l then pre.filter (fun x => M.lea T (M.toI x.l) l) ++ [x] else pre.filter (fun x => M.lea T (M.toI x.l) l) := by
  rw [List.filter_append]
  by_cases h : M.lea T (M.toI x.l) l = true
  · simp [h]
  · simp [h]

set_option maxHeartbeats 4000000 in
set_option maxRecDepth 100000 in
theorem Lean_in (n : Nat) (hn : 6 ≤ n) (m : Int) (a : Option Addr) (c : Nat) (T : List (List Int)) (aw : Option Addr) (cw : Nat) (l : List Int) (sz : Int) (w : World) (hm : T.length ≤ maxLen) (hml : ∀ i, i < T.length → (T.getD i []).length ≤ maxLen) (hl : l.length ≤ maxLen) (hT : RdM w a T) (hw : RdI w aw l) :
    CallsIn Fence.wide n Tryd.prog 34 #[M.cv m a T.length c, .slice aw l.length cw, .int .i64 sz] w (M.LM (M.leaV m T l sz).1 (M.leaV m T l sz).2 w) := by
  obtain ⟨V, hV, hS⟩ := M.lsNew w m a T.length c aw l.length cw
  have HS := hid hS
  have HC := hid (checkCopy_any m a c T aw cw l V hm hml hl (hT.stays hS.below) (hw.stays hS.below))
  have HZ := hid (fun w => checkSize_any sz w)
  have HT0 := hid hT
  have HW0 := hid hw
  have k0 := hS.c0
  have k1 := hS.c1
  have k2 := hS.c2
  clear hT hw hS
  unfold M.cv at *
  refine callsIn_of_wp_marks Tryd.func34 rfl trivial ?_ rfl
  simp only [Tryd.ntmps34, List.size_toArray, List.length_cons, List.length_nil, Nat.reduceAdd, Nat.reduceSub, Array.replicate_succ, Array.replicate_zero, List.push_toArray, List.append_toArray, List.nil_append, List.cons_append]
  by_cases h0 : M.chkw m T l = 0
  · have hck : M.chk m T = 0 ∧ M.wd m (M.pl T) l = 0 := by
      unfold M.chkw at h0
      by_cases h : M.chk m T = 0
      · rw [if_pos h] at h0; exact ⟨h, h0⟩
      · rw [if_neg h] at h0; exact absurd h0 h
    have HOK := hid (M.chk_zero.1 hck.1)
    have HWD := hid (M.wd_zero.1 hck.2)
    have HV : Hid (M.leaV m T l sz = if M.sz sz = 0 then ((M.leaL T l sz.toNat).map M.toI, 0) else ([], M.sz sz)) := hid (by unfold M.leaV; rw [if_pos h0])
    rw [h0] at HC
    clear h0 hck
    gi_wp2_with fail
    rw [hV] at *
    clear hV
    refine ⟨trivial, fun _ => by omega, ?_⟩
    refine (callsIn_wide.2 HC.out).mono ?_
    rintro e W1 ⟨rfl, hb1⟩
    have x0 := cell_stays hb1 (Nat.le_refl _) k0
    have x1 := cell_stays hb1 (Nat.le_refl _) k1
    have x2 := cell_stays hb1 (Nat.le_refl _) k2
    have HB1 := hid (HS.out.below.trans (hb1.mono HS.out.below.size))
    have HS1 : Hid (w.heap.size + 2 ≤ W1.heap.size) := hid (by have := hb1.size; have := HS.out.size; omega)
    clear hb1 k0 k1 k2 HC HS
    by_cases hz : M.sz sz = 0
    · have HV2 : Hid (M.leaV m T l sz = ((M.leaL T l sz.toNat).map M.toI, 0)) := hid (by rw [HV.out, if_pos hz])
      have hsz : 1 ≤ sz ∧ sz ≤ 10 := by
        unfold M.sz at hz
        by_cases h : 1 ≤ sz ∧ sz ≤ 10
        · exact h
        · rw [if_neg h] at hz; omega
      rw [hz] at HZ
      obtain ⟨k, hk⟩ : ∃ k : Nat, sz = (k : Int) := ⟨sz.toNat, by omega⟩
      subst hk
      rw [Int.toNat_natCast] at HV2
      clear hz HV
      gi_wp2_with fail
      refine ⟨trivial, fun _ => by omega, ?_⟩
      refine (callsIn_wide.2 (HZ.out _)).mono ?_
      rintro e W2 ⟨rfl, rfl⟩
      have q0 := Lib.cell?_alloc_some (.cells #[.slice none 0 0] 22) x0
      have q1 := Lib.cell?_alloc_some (.cells #[.slice none 0 0] 22) x1
      have q2 := Lib.cell?_alloc_some (.cells #[.slice none 0 0] 22) x2
      clear x0 x1 x2
      gi_wp2_with (refine ⟨trivial, fun _ => by omega, ?_⟩; refine (allCoalitions_in _ T.length k _).mono ?_; rintro e w' ⟨rfl, rfl⟩)
      obtain ⟨bl, hbl⟩ : ∃ bl, W2.heap.size = bl := ⟨_, rfl⟩
      have HSB : Hid (w.heap.size + 2 ≤ bl) := hid (by have := HS1.out; omega)
      have hBX : Boxed (W2.alloc (.cells #[.slice none 0 0] 22)) bl 22 (.slice none 0 0) := by rw [← hbl]; exact Boxed.new _ _ _
      have hBW : Below w.heap.size w (W2.alloc (.cells #[.slice none 0 0] 22)) := HB1.out.alloc HB1.out.size _
      have hS3 : (W2.alloc (.cells #[.slice none 0 0] 22)).heap.size = bl + 1 := by simp [hbl]
      generalize hW3 : W2.alloc (.cells #[.slice none 0 0] 22) = W3 at *
      rw [hbl] at *
      obtain ⟨V0, hV0⟩ : ∃ V0, (W3.alloc (.cells #[.int .i64 (T.length : Nat)] 3)).alloc (.cells #[.int .i64 (k : Nat)] 3) = V0 := ⟨_, rfl⟩
      have hVs : V0.heap.size = bl + 1 + 2 := by rw [← hV0]; simp [hS3]
      have hVb : Below W3.heap.size W3 V0 := by rw [← hV0]; exact ((Below.refl _ _).alloc (Nat.le_refl _) _).alloc (by simp) _
      have v0 : V0.cell? ⟨W3.heap.size, 0, none⟩ = some (.int .i64 (T.length : Nat)) := by
        have h1 : (W3.alloc (.cells #[.int .i64 (T.length : Nat)] 3)).cell? ⟨W3.heap.size, 0, none⟩ = some (.int .i64 (T.length : Nat)) := by rw [World.cell?_alloc_at _ _ _ _ rfl]; rfl
        rw [← hV0]
        exact Lib.cell?_alloc_some _ h1
      have v1 : V0.cell? ⟨W3.heap.size + 1, 0, none⟩ = some (.int .i64 (k : Nat)) := by rw [← hV0, World.cell?_alloc_at _ _ _ _ (by simp)]; rfl
      have hV1 : ∀ o o', ((V0.alloc o).alloc o').cell? ⟨W3.heap.size, 0, none⟩ = some (.int .i64 (T.length : Nat)) := fun o o' => Lib.cell?_alloc_some _ (Lib.cell?_alloc_some _ v0)
      have hV2 : ∀ o o', ((V0.alloc o).alloc o').cell? ⟨W3.heap.size + 1, 0, none⟩ = some (.int .i64 (k : Nat)) := fun o o' => Lib.cell?_alloc_some _ (Lib.cell?_alloc_some _ v1)
      have z0 := cell_stays hVb (Nat.le_refl _) q0
      have z1 := cell_stays hVb (Nat.le_refl _) q1
      have z2 := cell_stays hVb (Nat.le_refl _) q2
      have hB2 : Below w.heap.size w V0 := hBW.trans (hVb.mono hBW.size)
      have hbx : Boxed V0 bl 22 (.slice none 0 0) := M.bxBelow hBX hVb
      have HCOL : Hid (M.Col bl bl (.slice none 0 0) [] V0) := hid ⟨hbx, World.ownsRow_nil _ _ _ _, fun x hx => by simp at hx⟩
      have HKP : Hid (M.Kp V0 (fun i => i < bl) (fun i => i = bl + 1 ∨ i = bl + 1 + 1) V0) := hid (M.Kp.refl (fun i hi => by omega))
      have HKC : Hid (M.Kp V0 (M.ColE bl (.slice none 0 0) []) (fun i => i = bl + 1 ∨ i = bl + 1 + 1) V0) := hid (M.Kp.refl (by
        rintro i (rfl | hi | ⟨x, hx, _⟩)
        · omega
        · simp [Value.ownBlock] at hi
        · simp at hx))
      have HB2 := hid hB2
      have HVS := hid hVs
      have HS3 := hid hS3
      have h10 := HOK.out.n10
      rw [hV0]
      rw [hS3] at hV1 hV2
      clear hV0 q0 q1 q2 hBX hBW hVb v0 v1 hbx hB2 hW3 hbl
      obtain ⟨i1, gi, gz0, gz1, gz2⟩ := info_parts (show (Tryd.prog.info? 25).map (fun i => (i.zero, i.size, i.bytes)) = some (some (.slice none 0 0), 1, 24) by kernel_rfl)
      refine M.range rfl (by omega) (gf := 71) (lb := #[.pointer (some ⟨bl + 1 + 1, 0, none⟩), .pointer (some ⟨bl + 1, 0, none⟩)]) rfl trivial (enters_of Tryd.func71 (by kernel_rfl) rfl)
        (allCoalitions1_seq (n - 1) (by omega) (bl + 1 + 1) (bl + 1) k T.length (by omega) h10) (M.RN.put T.length) (fun _ => rfl)
        (fun i => i = bl + 1 ∨ i = bl + 1 + 1) (by rintro i (rfl | rfl) <;> omega) (fun o o' => ⟨.inr rfl, .inl rfl, hV2 o o', hV1 o o'⟩)
        (fun pre A X => M.Kp V0 (fun i => i < bl) A X ∧ ∃ Y v, M.Col bl bl v (pre.filter fun x => M.lea T (M.toI x.l) l) Y ∧ M.Kp Y (M.ColE bl v (pre.filter fun x => M.lea T (M.toI x.l) l)) A X)
        (fun _ _ _ _ => False)
        (fun _ _ _ _ _ h k => by
          obtain ⟨h1, Y, v, h2, h3⟩ := h
          exact ⟨h1.al k, Y, v, h2, h3.al k⟩) (fun _ _ _ _ _ _ h _ => h.elim)
        ⟨HKP.out, V0, _, HCOL.out, HKC.out⟩
        (fun x => { tmps := #[.agg #[.int .i64 m, .slice a T.length c], .slice aw l.length cw, .int .i64 (k : Nat), .pointer (some ⟨w.heap.size, 0, none⟩), .pointer (some ⟨w.heap.size + 1, 0, none⟩), undef, .slice none 0 0, .int .i64 0, .int .i64 0, .int .i64 0, .pointer (some ⟨bl, 0, none⟩), .slice (some ⟨x.g, 0, none⟩) x.l.length x.cap, .agg #[.int .i64 m, .slice a T.length c], .slice aw l.length cw, .int .i64 0, .int .i64 0, .bool false, undef, .int .i64 (k : Nat), .int .i64 0, .int .i64 0, .bool false, undef, .pointer (some ⟨w.heap.size, 1, none⟩), .slice a T.length c, .int .i64 (T.length : Nat), .int .i64 (k : Nat), .func (.func 71) #[] #[.pointer (some ⟨bl + 1 + 1, 0, none⟩), .pointer (some ⟨bl + 1, 0, none⟩)], .slice (some ⟨x.g, 0, none⟩) x.l.length x.cap, undef, undef, undef, undef, undef, undef, undef, undef, undef, undef, undef], defers := [] })
        ?assign ?body ?done ?stop (M.RN.cells T.length)
      case assign =>
        intro li x X K hK
        unfold M.encC
        gi_wp2
        exact hK
      case body =>
        rintro li pre x A X ⟨hKp, Y, v, hcol, hKc⟩ hR hx hAlt hlen
        have hs1 := HSB.out
        have y0 := (hKp.cell (o := 0) (show w.heap.size < bl by omega)).trans z0
        have y1 := (hKp.cell (o := 1) (show w.heap.size < bl by omega)).trans z1
        have y2 := (hKp.cell (o := 0) (show w.heap.size + 1 < bl by omega)).trans z2
        have HBX : Hid (Below w.heap.size w X) := hid (HB2.out.trans (hKp.below (fun i hi => by omega)))
        have hin : M.In T.length (M.toI x.l) := fun i hi => by
          unfold M.toI at hi
          obtain ⟨z, hz, rfl⟩ := List.mem_map.1 hi
          have := M.asc_lt hR.2.1 z hz
          omega
        have HCN := hid (isLean_any m a c T x.g x.cap (M.toI x.l) aw cw l X ⟨HOK.out, by rw [M.toI_len]; unfold maxLen; have := hR.2.2; omega, hin, HWD.out.1, HWD.out.2⟩ (by rw [M.toI_len]; exact hR.2.2) (by rw [M.toI_len]; exact hR.1.cap.1) (HT0.out.stays HBX.out) hR.1.rd (HW0.out.stays HBX.out))
        rw [M.toI_len] at HCN
        unfold M.cv at HCN
        have HST := hid (M.step_lea T l pre x)
        have HKP := hid hKp
        have HKC := hid hKc
        have HCO := hid hcol
        have HR := hid hR
        have HX := hid hx
        have HAL := hid hAlt
        have HPF : Hid ((pre.filter fun x => M.lea T (M.toI x.l) l).length ≤ 3000) := hid (Nat.le_trans (List.length_filter_le _ _) (by omega))
        clear hKp hKc hcol hR hx hAlt hin hs1
        cases hr : M.lea T (M.toI x.l) l with
        | false =>
          rw [hr] at HCN HST
          clear hr
          gi_wp2_with fail
          refine ⟨trivial, fun _ => by omega, ?_⟩
          refine (CallsIn.inRound li (callsIn_wide.2 HCN.out)).mono ?_
          rintro e W5 ⟨rfl, hb5⟩
          have HB5 := hid hb5
          clear hb5
          gi_wp2
          refine ⟨M.Kq.of_below HB5.out HAL.out, HKP.out.stays HB5.out, Y, v, ?_⟩
          rw [HST.out]
          exact ⟨HCO.out, HKC.out.stays HB5.out⟩
        | true =>
          rw [hr] at HCN HST
          clear hr
          generalize (pre.filter fun x => M.lea T (M.toI x.l) l) = F at *
          gi_wp2_with fail
          refine ⟨trivial, fun _ => by omega, ?_⟩
          refine (CallsIn.inRound li (callsIn_wide.2 HCN.out)).mono ?_
          rintro e W5 ⟨rfl, hb5⟩
          have HC5 := hid (HCO.out.keep (HKC.out.stays hb5))
          have HB5 := hid hb5
          have x9 := HC5.out.box.cell
          have hpf := HPF.out
          clear hb5
          gi_wp2_with (gi_at_builtin; refine wpListIn_append_own_at _ rfl _ _ 22 rfl bl 25 i1 (.slice none 0 0) 1 24 Tryd.underlying22 gi gz0 gz1 gz2 rfl (by decide) v F.length (F.map M.enc1) rfl (HC5.out.row.alloc _) ⟨W5.heap.size, 0, none⟩ 1 1 [M.enc1 x] rfl rfl (cell_one_new _ _ _) (by simp [Value.oneCell', M.enc1]) (by unfold maxLen; omega) (by omega) (by have := HC5.out.box.lt; simp; omega) ?_; intro v' w9 hown' hgrow _ hat; obtain ⟨g', cap', rfl⟩ := ownsRow_succ hown'; have hv1 := (HC5.out.box.appended (by decide) HC5.out.row (Nat.le_of_lt HC5.out.box.lt) (Nat.le_refl _) hown' hgrow).1; have HMO := hid (HC5.out.more (HR.out.1.of_block (HB5.out.block _ HR.out.1.lt)) hown' hgrow hat (fun i hi => (HKC.out.old.1 i hi).1) (HX.out x.g rfl).1 (fun i hi => Nat.lt_of_lt_of_le (HAL.out i hi) HB5.out.size)); have hc1 := hv1.cell; have hf1 := hv1.frozen; clear hown' hgrow hat hv1)
          refine ⟨(M.Kq.of_below HB5.out HAL.out).trans HMO.out.2.2.1, (HKP.out.stays HB5.out).under HMO.out.2.2.2 (fun i hi => hi), w9.setCell ⟨bl, 0, none⟩ (.slice (some ⟨g', 0, none⟩) (F.length + 1) cap'), .slice (some ⟨g', 0, none⟩) (F.length + 1) cap', ?_⟩
          rw [HST.out]
          exact ⟨HMO.out.1, HMO.out.2.1⟩
      case done =>
        rintro D xs A X hAD hS ⟨hKp, Y, v, hcol, hKc⟩ hAlt hD
        have hsb := HSB.out
        have hc := hcol.keep hKc
        obtain ⟨F, hF⟩ : ∃ F, (xs.filter fun x => M.lea T (M.toI x.l) l) = F := ⟨_, rfl⟩
        rw [hF] at hc hKc
        have hFl : F.length ≤ 1023 := by
          rw [← hF]
          have h1 := List.length_filter_le (fun x => M.lea T (M.toI x.l) l) xs
          have h2 := congrArg List.length hS
          rw [List.length_map] at h2
          have := M.all_len (N := T.length) (m := k) h10 (by omega)
          omega
        have hFm : F.map (·.l) = (M.all T.length k).filter fun c => M.lea T (M.toI c) l := by
          rw [← hF, ← hS, List.filter_map]
          rfl
        have hFr : ∀ x, x ∈ F → M.RC x X ∧ x.l.length ≤ 1000 := fun x hx => ⟨hc.rc x hx, by
          have : x.l ∈ (M.all T.length k).filter fun c => M.lea T (M.toI c) l := by rw [← hFm]; exact List.mem_map_of_mem hx
          have := (M.mem_all.1 (List.mem_filter.1 this).1).2.1
          omega⟩
        have HSO := hid (sortC_any bl v F X (by omega) hc.row hFr)
        have HBX : Hid (Below w.heap.size w X) := hid (HB2.out.trans (hKp.below (fun i hi => by omega)))
        have x9 := hc.box.cell
        have HC := hid hc
        have HKC := hid hKc
        have HFM := hid hFm
        have HFR := hid hFr
        clear hS hcol hKc hc hFm hFr hAlt hF
        gi_wp2_with fail
        refine ⟨trivial, fun _ => by omega, ?_⟩
        refine (callsIn_wide.2 HSO.out).mono ?_
        rintro e W7 ⟨rfl, ys, hp, hsrt, ⟨av, cv, rfl, hcell⟩, hg⟩
        have hblv : some bl ≠ (Value.slice av F.length cv).ownBlock := HC.out.box.not_row (by decide) HC.out.row
        have x10 : W7.cell? ⟨bl, 0, none⟩ = some (.slice av F.length cv) := (World.cell?_of_block (hg.block bl HC.out.box.lt hblv)).trans x9
        have hyl : ys.length = F.length := hp.length_eq
        have HP := hid hp
        have HSR := hid hsrt
        have HCE := hid hcell
        have HG := hid hg
        clear hp hsrt hcell hg
        gi_wp2
        have hAv : ∀ i, (Value.slice av F.length cv).ownBlock = some i → ¬ A i := fun i hi => (HKC.out.old.1 i (.inr (.inl hi))).1
        have hDv : some D ≠ (Value.slice av F.length cv).ownBlock := fun e => hAv D e.symm hAD
        have hDX : D < X.heap.size := (Array.getElem?_eq_some_iff.1 hD).1
        have hD7 : W7.heap[D]? = some (.deferred (some [])) := (HG.out.block D hDX hDv).trans hD
        have hal := M.shut_al (A := fun i => i = D) [D] W7 (fun E hEE => List.mem_singleton.1 hEE)
        have hL : (M.leaL T l k) = ys.map (·.l) := by
          refine (M.sorted_is (ys := ys.map (·.l)) ?_ ?_ ((M.lxs_sorted T.length k).filter _) ?_).symm
          · rw [List.pairwise_map]; exact HSR.out
          · have h1 : (ys.map (·.l)).Perm (F.map (·.l)) := HP.out.map _
            rw [h1.nodup_iff, HFM.out]
            exact (M.all_nodup _ _).filter _
          · intro c
            have h1 : (ys.map (·.l)).Perm (F.map (·.l)) := HP.out.map _
            rw [h1.mem_iff, HFM.out, List.mem_filter, List.mem_filter, M.mem_lxs]
        have hlen : ((M.leaL T l k).map M.toI).length = F.length := by rw [List.length_map, hL, List.length_map, hyl]
        refine M.leave [D] W7 (fun E hEE => by rw [List.mem_singleton.1 hEE]; exact hD7) (by simp) ⟨_, results_tmp2 rfl _ _ _, av, cv, by rw [HV2.out]; exact congrArg (fun q => Ending.returned (Value.tuple #[Value.slice av q cv, Value.int .i64 0])) hlen.symm, ?_, ?_⟩
        · rw [HV2.out]
          intro j hj
          have hj1 : j < ys.length := by rw [hyl, ← hlen]; exact hj
          obtain ⟨g, rfl, hcj⟩ := HCE.out j hj1
          have hyj : ys.getD j ⟨0, 0, []⟩ = ys[j] := by rw [List.getD_eq_getElem?_getD, List.getElem?_eq_getElem hj1]; rfl
          have hm : ys[j] ∈ F := HP.out.mem_iff.1 (List.getElem_mem hj1)
          have hrc := (HFR.out _ hm).1
          have e : ((M.leaL T l k).map M.toI)[j]'hj = M.toI ys[j].l := by
            simp only [hL, List.map_map, List.getElem_map, Function.comp]
          have hgv : (Value.slice (some (⟨g, 0, none⟩ : Addr)) F.length cv).ownBlock = some g := rfl
          have hne : some ys[j].g ≠ (Value.slice (some (⟨g, 0, none⟩ : Addr)) F.length cv).ownBlock := fun e2 => by
            obtain ⟨cur, hcu⟩ := hrc.blk
            rcases HC.out.row.2 with ⟨e3, _⟩ | ⟨g', cap', cur', e3, _, hg', _⟩
            · cases e3
            · simp only [Value.slice.injEq, Option.some.injEq, Addr.mk.injEq, and_true] at e3
              rw [hgv] at e2
              have e4 : ys[j].g = g := Option.some.inj e2
              rw [e4, e3.1, hg'] at hcu
              simp only [Option.some.injEq, Obj.cells.injEq] at hcu
              exact absurd hcu.2.1 (by decide)
          have hg7 : g < W7.heap.size := World.block_lt_of_cell? _ _ hcj
          have hgD : g ≠ D := fun e2 => hDv (by rw [hgv, e2])
          have hrS : M.RC ys[j] (M.shut [D] W7) := (hrc.of_block (HG.out.block _ hrc.lt hne)).of_block (hal.block _ (Nat.lt_of_lt_of_le hrc.lt HG.out.size) (fun e2 => by
            obtain ⟨cur, hcu⟩ := hrc.blk
            rw [show ys[j].g = D from e2, hD] at hcu
            cases hcu))
          refine ⟨g, 0, some ⟨ys[j].g, 0, none⟩, ys[j].cap, rfl, ?_, ?_⟩
          · rw [Nat.zero_add, World.cell?_of_block (hal.block g hg7 hgD), hcj, hyj, e, M.toI_len]
            rfl
          · rw [e]; exact hrS.rd
        · refine (HBX.out.grown HG.out HBX.out.size (fun i hi => ?_)).trans ⟨hal.os, hal.tape, hal.output, hal.size, fun i hi => hal.block i (by have := HBX.out.size; have := HG.out.size; omega) (fun e2 => ?_)⟩
          · have := (World.ownsRow.lt HC.out.row i hi).1
            omega
          · have : ¬ A i := (hKp.old.1 i (by omega)).1
            exact this (e2 ▸ hAD)
      case stop =>
        rintro D c' pre A X _ _ h _
        exact h.elim
    · have HV2 : Hid (M.leaV m T l sz = ([], M.sz sz)) := hid (by rw [HV.out, if_neg hz])
      have hz' : (M.sz sz == 0) = false := beq_eq_false_iff_ne.2 hz
      generalize M.sz sz = y at *
      clear hz HV
      gi_wp2_with fail
      refine ⟨trivial, fun _ => by omega, ?_⟩
      refine (callsIn_wide.2 (HZ.out _)).mono ?_
      rintro e w' ⟨rfl, rfl⟩
      gi_wp2
      exact ⟨_, results_tmp2 rfl _ _ _, none, 0, by rw [HV2.out]; rfl, by rw [HV2.out]; exact fun _ h => absurd h (Nat.not_lt_zero _), HB1.out⟩
  · have HV : Hid (M.leaV m T l sz = ([], M.chkw m T l)) := hid (by unfold M.leaV; rw [if_neg h0])
    have h0' : (M.chkw m T l == 0) = false := beq_eq_false_iff_ne.2 h0
    generalize M.chkw m T l = y at *
    clear h0
    gi_wp2_with fail
    rw [hV] at *
    clear hV
    refine ⟨trivial, fun _ => by omega, ?_⟩
    refine (callsIn_wide.2 HC.out).mono ?_
    rintro e W1 ⟨rfl, hb1⟩
    have HB1 := hid (HS.out.below.trans (hb1.mono HS.out.below.size))
    clear hb1
    gi_wp2
    exact ⟨_, results_tmp2 rfl _ _ _, none, 0, by rw [HV.out]; rfl, by rw [HV.out]; exact fun _ h => absurd h (Nat.not_lt_zero _), HB1.out⟩
end Go.Proofs.YthnklabdjaiplaaDoor
