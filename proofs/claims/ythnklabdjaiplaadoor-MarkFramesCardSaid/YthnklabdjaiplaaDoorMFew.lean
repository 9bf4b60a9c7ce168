/- Package mark: allCoalitions and Fewest. -/
import Derived.Test.YthnklabdjaiplaaDoorMAll
import Derived.Test.YthnklabdjaiplaaDoorMCan
namespace Go.Proofs.YthnklabdjaiplaaDoor
open Go.RowKit Go.Shelf
attribute [local go_sem] Oper.semAt_some

set_option maxHeartbeats 1000000 in
theorem allCoalitions_in (n : Nat) (N most : Nat) (w : World) :
    CallsIn Fence.wide n Tryd.prog 55 #[.int .i64 (N : Nat), .int .i64 (most : Nat)] w fun e w' => e = .returned (.func (.func 71) #[] #[.pointer (some ⟨w.heap.size + 1, 0, none⟩), .pointer (some ⟨w.heap.size, 0, none⟩)]) ∧ w' = (w.alloc (.cells #[.int .i64 (N : Nat)] 3)).alloc (.cells #[.int .i64 (most : Nat)] 3) := by
  refine callsIn_of_wp Tryd.func55 rfl trivial ?_ rfl
  simp only [Tryd.ntmps55, List.size_toArray, List.length_cons, List.length_nil, Nat.reduceAdd, Nat.reduceSub, Array.replicate_succ, Array.replicate_zero, List.push_toArray, List.append_toArray, List.nil_append, List.cons_append]
  gi_wp2
  go_ret
  exact ⟨rfl, rfl⟩

/-- Some blocks lie as they lay in an earlier world; the foreign ones are others. -/
structure M.Kp (Y : World) (E A : Nat → Prop) (X : World) : Prop where
  os : X.os = Y.os
  tape : X.tape = Y.tape
  output : X.output = Y.output
  old : M.Old E Y A X
theorem M.Kp.refl {Y : World} {E A : Nat → Prop} (h : ∀ i, E i → ¬ A i ∧ i < Y.heap.size) : M.Kp Y E A Y := ⟨rfl, rfl, rfl, fun i hi => ⟨(h i hi).1, rfl, (h i hi).2⟩, Nat.le_refl _⟩
theorem M.Kp.al {Y X X' : World} {E A A' : Nat → Prop} (h : M.Kp Y E A X) (k : M.Al A X A' X') : M.Kp Y E A' X' := ⟨k.os.trans h.os, k.tape.trans h.tape, k.output.trans h.output, h.old.al k⟩
theorem M.Kp.cell {Y X : World} {E A : Nat → Prop} (h : M.Kp Y E A X) {b o : Nat} (hb : E b) : X.cell? ⟨b, o, none⟩ = Y.cell? ⟨b, o, none⟩ := h.old.cell hb
theorem M.Kp.below {Y X : World} {E A : Nat → Prop} {n : Nat} (h : M.Kp Y E A X) (hE : ∀ i, i < n → E i) : Below n Y X := ⟨h.os, h.tape, h.output, h.old.2, fun k hk => (h.old.1 k (hE k hk)).2.1⟩
theorem M.Kp.stays {Y X X' : World} {E A : Nat → Prop} (h : M.Kp Y E A X) (k : Below X.heap.size X X') : M.Kp Y E A X' := h.al (M.al_below k)
theorem M.Kp.weak {Y X : World} {E E' A : Nat → Prop} (h : M.Kp Y E A X) (k : ∀ i, E' i → E i) : M.Kp Y E' A X := ⟨h.os, h.tape, h.output, fun i hi => h.old.1 i (k i hi), h.old.2⟩

theorem M.bxBelow {w w' : World} {b : Nat} {t : TypeId} {v : Value} (h : Boxed w b t v) (hb : Below w.heap.size w w') : Boxed w' b t v := (hb.block b h.lt).trans h

/-- Numbers that are handed back, with an error. -/
def M.LE (L : List Int) (err : Int) (w : World) (e : Ending) (w' : World) : Prop := ∃ a cap, e = .returned (.tuple #[.slice a L.length cap, .int .i64 err]) ∧ RdI w' a L ∧ Below w.heap.size w w'

theorem M.find_none {α β : Type} {f : α → β} {p : β → Bool} {xs : List α} {Z : List β} (h : xs.map f = Z) (hn : ∀ x, x ∈ xs → p (f x) = false) : Z.find? p = none := by
  rw [← h, List.find?_eq_none]
  intro z hz
  obtain ⟨x, hx, rfl⟩ := List.mem_map.1 hz
  rw [hn x hx]
  simp
theorem M.find_some {α β : Type} {f : α → β} {p : β → Bool} {xs : List α} {x : α} {Z : List β} {j : Nat} (h : (xs ++ [x]).map f = Z.take j) (hn : ∀ y, y ∈ xs → p (f y) = false) (hy : p (f x) = true) : Z.find? p = some (f x) := by
  rw [← List.take_append_drop j Z, ← h, List.find?_append, List.map_append, List.find?_append, M.find_none (f := f) rfl hn]
  simp [hy]

/-- The smallest coalition that can make a word. -/
def M.few (T : List (List Int)) (l : List Int) : Option (List Nat) := (M.all T.length 10).find? fun c => M.can T (M.toI c) l
def M.fewV (m : Int) (T : List (List Int)) (l : List Int) : List Int × Int :=
  if M.chkw m T l = 0 then (match M.few T l with | some c => (M.toI c, 0) | none => ([], 14)) else ([], M.chkw m T l)

/-- The variables of Fewest. -/
structure M.FS (w V : World) (m : Int) (a : Option Addr) (n c : Nat) (aw : Option Addr) (k cw : Nat) : Prop where
  size : V.heap.size = w.heap.size + 4
  below : Below w.heap.size w V
  c0 : V.cell? ⟨w.heap.size, 0, none⟩ = some (.int .i64 m)
  c1 : V.cell? ⟨w.heap.size, 1, none⟩ = some (.slice a n c)
  c2 : V.cell? ⟨w.heap.size + 1, 0, none⟩ = some (.slice aw k cw)
  b2 : Boxed V (w.heap.size + 1 + 1) 25 (.slice none 0 0)
  b3 : Boxed V (w.heap.size + 1 + 1 + 1) 29 (.int .i64 0)
theorem M.fsNew (w : World) (m : Int) (a : Option Addr) (n c : Nat) (aw : Option Addr) (k cw : Nat) : ∃ V, (((w.alloc (.cells #[.int .i64 m, .slice a n c] 24)).alloc (.cells #[.slice aw k cw] 25)).alloc (.cells #[.slice none 0 0] 25)).alloc (.cells #[.int .i64 0] 29) = V ∧ M.FS w V m a n c aw k cw := by
  refine ⟨_, rfl, by simp, (((Below.refl _ _).alloc (Nat.le_refl _) _).alloc (by simp) _).alloc (by simp; omega) _ |>.alloc (by simp; omega) _, ?_, ?_, ?_, ?_, ?_⟩
  · exact Lib.cell?_alloc_some _ (Lib.cell?_alloc_some _ (Lib.cell?_alloc_some _ (by rw [World.cell?_alloc_at _ _ _ _ rfl]; rfl)))
  · exact Lib.cell?_alloc_some _ (Lib.cell?_alloc_some _ (Lib.cell?_alloc_some _ (by rw [World.cell?_alloc_at _ _ _ _ rfl]; rfl)))
  · exact Lib.cell?_alloc_some _ (Lib.cell?_alloc_some _ (by rw [World.cell?_alloc_at _ _ _ _ (by simp)]; rfl))
  · have := Boxed.new ((w.alloc (.cells #[.int .i64 m, .slice a n c] 24)).alloc (.cells #[.slice aw k cw] 25)) 25 (.slice none 0 0)
    rw [World.size_alloc, World.size_alloc] at this
    exact this.alloc _
  · have := Boxed.new (((w.alloc (.cells #[.int .i64 m, .slice a n c] 24)).alloc (.cells #[.slice aw k cw] 25)).alloc (.cells #[.slice none 0 0] 25)) 29 (.int .i64 0)
    rw [World.size_alloc, World.size_alloc, World.size_alloc] at this
    exact this

theorem M.res2 {fn : Func} {p q : Tmp} (h : fn.results = #[.cell p 25, .cell q 29]) (tmps : Array Value) (w : World) (x y : Nat) (v u : Value)
    (hp : tmps.getD p undef = .pointer (some ⟨x, 0, none⟩)) (hq : tmps.getD q undef = .pointer (some ⟨y, 0, none⟩)) (h1 : w.cell? ⟨x, 0, none⟩ = some v) (h2 : w.cell? ⟨y, 0, none⟩ = some u) :
    (results fn tmps).run Tryd.prog w = .ok (.tuple #[v, u]) w := by
  have hp' : tmps[p]?.getD undef = .pointer (some ⟨x, 0, none⟩) := by simpa using hp
  have hq' : tmps[q]?.getD undef = .pointer (some ⟨y, 0, none⟩) := by simpa using hq
  have ui := Tryd.underlying25
  have ue := Tryd.underlying29
  simp [results, h, hp', hq', asAddr, loadVar, h1, h2, go_sem]

set_option maxHeartbeats 4000000 in
set_option maxRecDepth 100000 in
theorem Fewest_in (n : Nat) (hn : 6 ≤ n) (m : Int) (a : Option Addr) (c : Nat) (T : List (List Int)) (aw : Option Addr) (cw : Nat) (l : List Int) (w : World) (hm : T.length ≤ maxLen) (hml : ∀ i, i < T.length → (T.getD i []).length ≤ maxLen) (hl : l.length ≤ maxLen) (hT : RdM w a T) (hw : RdI w aw l) :
    CallsIn Fence.wide n Tryd.prog 35 #[M.cv m a T.length c, .slice aw l.length cw] w (M.LE (M.fewV m T l).1 (M.fewV m T l).2 w) := by
  obtain ⟨V, hV, hS⟩ := M.fsNew w m a T.length c aw l.length cw
  have HS := hid hS
  have HC := hid (checkCopy_any m a c T aw cw l V hm hml hl (hT.stays hS.below) (hw.stays hS.below))
  have HT := hid (hT.stays hS.below)
  have HW := hid (hw.stays hS.below)
  have HT0 := hid hT
  have HW0 := hid hw
  have k0 := hS.c0
  have k1 := hS.c1
  have k2 := hS.c2
  clear hT hw hS
  unfold M.cv at *
  refine callsIn_of_wp_marks Tryd.func35 rfl trivial ?_ rfl
  simp only [Tryd.ntmps35, List.size_toArray, List.length_cons, List.length_nil, Nat.reduceAdd, Nat.reduceSub, Array.replicate_succ, Array.replicate_zero, List.push_toArray, List.append_toArray, List.nil_append, List.cons_append]
  by_cases h0 : M.chkw m T l = 0
  · have hck : M.chk m T = 0 ∧ M.wd m (M.pl T) l = 0 := by
      unfold M.chkw at h0
      by_cases h : M.chk m T = 0
      · rw [if_pos h] at h0; exact ⟨h, h0⟩
      · rw [if_neg h] at h0; exact absurd h0 h
    have HOK := hid (M.chk_zero.1 hck.1)
    have HWD := hid (M.wd_zero.1 hck.2)
    have HV : Hid (M.fewV m T l = (match M.few T l with | some c => (M.toI c, 0) | none => ([], 14))) := hid (by unfold M.fewV; rw [if_pos h0])
    rw [h0] at HC
    clear h0 hck
    gi_wp2_with fail
    rw [hV] at *
    clear hV
    refine ⟨trivial, fun _ => by omega, ?_⟩
    refine (callsIn_wide.2 HC.out).mono ?_
    rintro e W1 ⟨rfl, hb1⟩
    have x0 := cell_stays hb1 (Nat.le_refl _) k0
    have x1 := cell_stays hb1 (Nat.le_refl _) k1
    have x2 := cell_stays hb1 (Nat.le_refl _) k2
    have HX2 := hid (M.bxBelow HS.out.b2 hb1)
    have HX3 := hid (M.bxBelow HS.out.b3 hb1)
    have HT1 := hid (HT.out.stays hb1)
    have HW1 := hid (HW.out.stays hb1)
    have HB1 := hid (HS.out.below.trans (hb1.mono HS.out.below.size))
    have HS1 : Hid (w.heap.size + 4 ≤ W1.heap.size) := hid (by have := hb1.size; have := HS.out.size; omega)
    clear hb1 k0 k1 k2 HC HT HW HS
    gi_wp2_with (refine ⟨trivial, fun _ => by omega, ?_⟩; refine (allCoalitions_in _ T.length 10 W1).mono ?_; rintro e w' ⟨rfl, rfl⟩)
    obtain ⟨V0, hV0⟩ : ∃ V0, (W1.alloc (.cells #[.int .i64 (T.length : Nat)] 3)).alloc (.cells #[.int .i64 10] 3) = V0 := ⟨_, rfl⟩
    have hVs : V0.heap.size = W1.heap.size + 2 := by rw [← hV0]; simp
    have hVb : Below W1.heap.size W1 V0 := by rw [← hV0]; exact ((Below.refl _ _).alloc (Nat.le_refl _) _).alloc (by simp) _
    have v0 : V0.cell? ⟨W1.heap.size, 0, none⟩ = some (.int .i64 (T.length : Nat)) := by
      have h1 : (W1.alloc (.cells #[.int .i64 (T.length : Nat)] 3)).cell? ⟨W1.heap.size, 0, none⟩ = some (.int .i64 (T.length : Nat)) := by rw [World.cell?_alloc_at _ _ _ _ rfl]; rfl
      rw [← hV0]
      exact Lib.cell?_alloc_some _ h1
    have v1 : V0.cell? ⟨W1.heap.size + 1, 0, none⟩ = some (.int .i64 (10 : Nat)) := by rw [← hV0, World.cell?_alloc_at _ _ _ _ (by simp)]; rfl
    have hV1 : ∀ o o', ((V0.alloc o).alloc o').cell? ⟨W1.heap.size, 0, none⟩ = some (.int .i64 (T.length : Nat)) := fun o o' => Lib.cell?_alloc_some _ (Lib.cell?_alloc_some _ v0)
    have hV2 : ∀ o o', ((V0.alloc o).alloc o').cell? ⟨W1.heap.size + 1, 0, none⟩ = some (.int .i64 (10 : Nat)) := fun o o' => Lib.cell?_alloc_some _ (Lib.cell?_alloc_some _ v1)
    have hKP : M.Kp V0 (fun i => i < W1.heap.size) (fun i => i = W1.heap.size ∨ i = W1.heap.size + 1) V0 := M.Kp.refl (fun i hi => by omega)
    have z0 := cell_stays hVb (Nat.le_refl _) x0
    have z1 := cell_stays hVb (Nat.le_refl _) x1
    have z2 := cell_stays hVb (Nat.le_refl _) x2
    have HT2 := hid (HT1.out.stays hVb)
    have HW2 := hid (HW1.out.stays hVb)
    have HY2 := hid (M.bxBelow HX2.out hVb)
    have HY3 := hid (M.bxBelow HX3.out hVb)
    have HB2 := hid (HB1.out.trans (hVb.mono HB1.out.size))
    have h10 := HOK.out.n10
    have HVB := hid hVb
    rw [hV0]
    clear hV0 x0 x1 x2 HX2 HX3 HT1 HW1 hVb v0 v1
    refine M.range rfl (by omega) (gf := 71) (lb := #[.pointer (some ⟨W1.heap.size + 1, 0, none⟩), .pointer (some ⟨W1.heap.size, 0, none⟩)]) rfl trivial (enters_of Tryd.func71 (by kernel_rfl) rfl)
      (allCoalitions1_seq (n - 1) (by omega) (W1.heap.size + 1) W1.heap.size 10 T.length (by omega) h10) (M.RN.put T.length) (fun _ => rfl)
      (fun i => i = W1.heap.size ∨ i = W1.heap.size + 1) (by rintro i (rfl | rfl) <;> omega) (fun o o' => ⟨.inr rfl, .inl rfl, hV2 o o', hV1 o o'⟩)
      (fun pre A X => M.Kp V0 (fun i => i < W1.heap.size) A X ∧ ∀ x, x ∈ pre → M.can T (M.toI x.l) l = false)
      (fun c pre A X => c = .ret ∧ ∃ pre' x, pre = pre' ++ [x] ∧ (∀ y, y ∈ pre' → M.can T (M.toI y.l) l = false) ∧ M.can T (M.toI x.l) l = true ∧ ∃ Y, M.RC x Y ∧ Boxed Y (w.heap.size + 1 + 1) 25 (.slice (some ⟨x.g, 0, none⟩) x.l.length x.cap) ∧ Boxed Y (w.heap.size + 1 + 1 + 1) 29 (.int .i64 0) ∧ Below w.heap.size w Y ∧ M.Kp Y (fun i => i < w.heap.size ∨ i = w.heap.size + 1 + 1 ∨ i = w.heap.size + 1 + 1 + 1 ∨ i = x.g) A X)
      (fun _ _ _ _ _ h k => ⟨h.1.al k, h.2⟩) (fun _ _ _ _ _ _ h k => by
        obtain ⟨h1, pre', x, h2, h3, h4, Y, h5, h6, h7, h8, h9⟩ := h
        exact ⟨h1, pre', x, h2, h3, h4, Y, h5, h6, h7, h8, h9.al k⟩)
      ⟨hKP, fun x hx => by simp at hx⟩
      (fun x => { tmps := #[.agg #[.int .i64 m, .slice a T.length c], .slice aw l.length cw, .pointer (some ⟨w.heap.size, 0, none⟩), .pointer (some ⟨w.heap.size + 1, 0, none⟩), .pointer (some ⟨w.heap.size + 1 + 1, 0, none⟩), .pointer (some ⟨w.heap.size + 1 + 1 + 1, 0, none⟩), .int .i64 0, .slice (some ⟨x.g, 0, none⟩) x.l.length x.cap, .agg #[.int .i64 m, .slice a T.length c], .slice aw l.length cw, .int .i64 0, .int .i64 0, .bool false, undef, .pointer (some ⟨w.heap.size, 1, none⟩), .slice a T.length c, .int .i64 (T.length : Nat), .func (.func 71) #[] #[.pointer (some ⟨W1.heap.size + 1, 0, none⟩), .pointer (some ⟨W1.heap.size, 0, none⟩)], .slice (some ⟨x.g, 0, none⟩) x.l.length x.cap, undef, undef, undef, undef, undef], defers := [] })
      ?assign ?body ?done ?stop (M.RN.cells T.length)
    case assign =>
      intro li x X K hK
      unfold M.encC
      gi_wp2
      exact hK
    case body =>
      rintro li pre x A X ⟨hKp, hno⟩ hR hx hAlt hlen
      have y0 := (hKp.cell (o := 0) (show w.heap.size < W1.heap.size by have := HS1.out; omega)).trans z0
      have y1 := (hKp.cell (o := 1) (show w.heap.size < W1.heap.size by have := HS1.out; omega)).trans z1
      have y2 := (hKp.cell (o := 0) (show w.heap.size + 1 < W1.heap.size by have := HS1.out; omega)).trans z2
      have HBX : Hid (Below w.heap.size w X) := hid (HB2.out.trans (hKp.below (fun i hi => by have := HS1.out; omega)))
      have hin : M.In T.length (M.toI x.l) := fun i hi => by
        unfold M.toI at hi
        obtain ⟨z, hz, rfl⟩ := List.mem_map.1 hi
        have := M.asc_lt hR.2.1 z hz
        omega
      have HCN := hid (canMake_any m a c T (some ⟨x.g, 0, none⟩) x.cap (M.toI x.l) aw cw l X ⟨HOK.out, by rw [M.toI_len]; unfold maxLen; have := hR.2.2; omega, hin, HWD.out.1, HWD.out.2⟩ (HT0.out.stays HBX.out) hR.1.rd (HW0.out.stays HBX.out))
      rw [M.toI_len] at HCN
      unfold M.cv at HCN
      have HKP := hid hKp
      have HNO := hid hno
      have HR := hid hR
      have HX := hid hx
      have HAL := hid hAlt
      clear hKp hno hR hx hAlt hin
      cases hr : M.can T (M.toI x.l) l with
      | false =>
        rw [hr] at HCN
        have HRR := hid hr
        clear hr
        gi_wp2_with fail
        refine ⟨trivial, fun _ => by omega, ?_⟩
        refine (CallsIn.inRound li (callsIn_wide.2 HCN.out)).mono ?_
        rintro e W5 ⟨rfl, hb5⟩
        have HB5 := hid hb5
        clear hb5
        gi_wp2
        exact ⟨M.Kq.of_below HB5.out HAL.out, HKP.out.stays HB5.out, fun y hy => by
          rcases List.mem_append.1 hy with h | h
          · exact HNO.out y h
          · rw [List.mem_singleton.1 h]; exact HRR.out⟩
      | true =>
        rw [hr] at HCN
        have HRR := hid hr
        clear hr
        gi_wp2_with fail
        refine ⟨trivial, fun _ => by omega, ?_⟩
        refine (CallsIn.inRound li (callsIn_wide.2 HCN.out)).mono ?_
        rintro e W5 ⟨rfl, hb5⟩
        have hs1 := HS1.out
        have hq2 : Boxed X (w.heap.size + 1 + 1) 25 (.slice none 0 0) := (HKP.out.old.1 _ (by omega)).2.1.trans HY2.out
        have hq3 : Boxed X (w.heap.size + 1 + 1 + 1) 29 (.int .i64 0) := (HKP.out.old.1 _ (by omega)).2.1.trans HY3.out
        have hx2 := M.bxBelow hq2 hb5
        have hx3 := M.bxBelow hq3 hb5
        have x2 := hx2.cell
        have x3 := hx3.cell
        have f2 := hx2.frozen
        have f3 := hx3.frozen
        have HB5 := hid hb5
        have HX2 := hid hx2
        have HX3 := hid hx3
        clear hb5 hq2 hq3 hx2 hx3
        gi_wp2
        have hgx := HX.out x.g rfl
        have hz2 := Boxed.other (HX2.out.set (.slice (some ⟨x.g, 0, none⟩) x.l.length x.cap)) (show w.heap.size + 1 + 1 ≠ w.heap.size + 1 + 1 + 1 by omega) (.int .i64 0)
        have hz3 := (Boxed.other HX3.out (show w.heap.size + 1 + 1 + 1 ≠ w.heap.size + 1 + 1 by omega) (.slice (some ⟨x.g, 0, none⟩) x.l.length x.cap)).set (.int .i64 0)
        have hkq : M.Kq A X ((W5.setCell ⟨w.heap.size + 1 + 1, 0, none⟩ (.slice (some ⟨x.g, 0, none⟩) x.l.length x.cap)).setCell ⟨w.heap.size + 1 + 1 + 1, 0, none⟩ (.int .i64 0)) :=
          ((M.Kq.of_below HB5.out HAL.out).trans (M.Kq.set _ _ (HKP.out.old.1 (w.heap.size + 1 + 1) (by omega)).1)).trans (M.Kq.set _ _ (HKP.out.old.1 (w.heap.size + 1 + 1 + 1) (by omega)).1)
        have hbz : Below w.heap.size w ((W5.setCell ⟨w.heap.size + 1 + 1, 0, none⟩ (.slice (some ⟨x.g, 0, none⟩) x.l.length x.cap)).setCell ⟨w.heap.size + 1 + 1 + 1, 0, none⟩ (.int .i64 0)) :=
          ((HBX.out.trans (HB5.out.mono HBX.out.size)).setCell (p := ⟨w.heap.size + 1 + 1, 0, none⟩) (by show w.heap.size ≤ w.heap.size + 1 + 1; omega) _).setCell (p := ⟨w.heap.size + 1 + 1 + 1, 0, none⟩) (by show w.heap.size ≤ w.heap.size + 1 + 1 + 1; omega) _
        have hrc : M.RC x ((W5.setCell ⟨w.heap.size + 1 + 1, 0, none⟩ (.slice (some ⟨x.g, 0, none⟩) x.l.length x.cap)).setCell ⟨w.heap.size + 1 + 1 + 1, 0, none⟩ (.int .i64 0)) :=
          HR.out.1.of_block (((Below.heap_setCell _ _ _ _ (show x.g ≠ w.heap.size + 1 + 1 + 1 by omega)).trans (Below.heap_setCell _ _ _ _ (show x.g ≠ w.heap.size + 1 + 1 by omega))).trans (HB5.out.block _ HR.out.1.lt))
        refine ⟨hkq, rfl, pre, x, rfl, HNO.out, HRR.out, _, hrc, hz2, hz3, hbz, M.Kp.refl ?_⟩
        have hl := hrc.lt
        rintro i (hi | rfl | rfl | rfl)
        · exact ⟨(HKP.out.old.1 i (by omega)).1, by have := hbz.size; omega⟩
        · exact ⟨(HKP.out.old.1 _ (by omega)).1, hz2.lt⟩
        · exact ⟨(HKP.out.old.1 _ (by omega)).1, hz3.lt⟩
        · exact ⟨hgx.1, hl⟩
    case done =>
      rintro D xs A X hAD hS ⟨hKp, hno⟩ hAlt hD
      have HF : Hid (M.few T l = none) := hid (M.find_none hS hno)
      have HV2 : Hid (M.fewV m T l = ([], 14)) := hid (by rw [HV.out, HF.out])
      have hs1 := HS1.out
      have hx2 : Boxed X (w.heap.size + 1 + 1) 25 (.slice none 0 0) := (hKp.old.1 _ (by omega)).2.1.trans HY2.out
      have hx3 : Boxed X (w.heap.size + 1 + 1 + 1) 29 (.int .i64 0) := (hKp.old.1 _ (by omega)).2.1.trans HY3.out
      have x2 := hx2.cell
      have x3 := hx3.cell
      have f2 := hx2.frozen
      have f3 := hx3.frozen
      have HKP := hid hKp
      have HX2 := hid hx2
      have HX3 := hid hx3
      clear hx2 hx3 hKp hno hAlt hS
      gi_wp2
      have hz2 := Boxed.other (HX2.out.set (.slice none 0 0)) (show w.heap.size + 1 + 1 ≠ w.heap.size + 1 + 1 + 1 by omega) (.int .i64 14)
      have hz3 := (Boxed.other HX3.out (show w.heap.size + 1 + 1 + 1 ≠ w.heap.size + 1 + 1 by omega) (.slice none 0 0)).set (.int .i64 14)
      have hE := HKP.out.old.1
      have hbz : Below w.heap.size w ((X.setCell ⟨w.heap.size + 1 + 1, 0, none⟩ (.slice none 0 0)).setCell ⟨w.heap.size + 1 + 1 + 1, 0, none⟩ (.int .i64 14)) :=
        ((HB2.out.trans (HKP.out.below (fun i hi => by omega))).setCell (p := ⟨w.heap.size + 1 + 1, 0, none⟩) (by show w.heap.size ≤ w.heap.size + 1 + 1; omega) _).setCell (p := ⟨w.heap.size + 1 + 1 + 1, 0, none⟩) (by show w.heap.size ≤ w.heap.size + 1 + 1 + 1; omega) _
      have hDn : ∀ i, i < W1.heap.size → i ≠ D := fun i hi e => (hE i hi).1 (e ▸ hAD)
      have hDw : w.heap.size ≤ D := Nat.le_of_not_lt fun hl => hDn D (by omega) rfl
      have hal := M.shut_al (A := A) [D] ((X.setCell ⟨w.heap.size + 1 + 1, 0, none⟩ (.slice none 0 0)).setCell ⟨w.heap.size + 1 + 1 + 1, 0, none⟩ (.int .i64 14)) (fun E hEE => by rw [List.mem_singleton.1 hEE]; exact hAD)
      refine M.leave [D] _ (fun E hEE => ?_) (by simp) ⟨_, M.res2 rfl _ _ (w.heap.size + 1 + 1) (w.heap.size + 1 + 1 + 1) _ _ rfl rfl ?_ ?_, none, 0, (by rw [HV2.out]), (by rw [HV2.out]; exact RdI.nil _ _), ?_⟩
      · rw [List.mem_singleton.1 hEE]
        exact (((Below.heap_setCell _ _ _ _ (show D ≠ w.heap.size + 1 + 1 + 1 from (hDn _ (by omega)).symm)).trans (Below.heap_setCell _ _ _ _ (show D ≠ w.heap.size + 1 + 1 from (hDn _ (by omega)).symm)))).trans hD
      · exact (World.cell?_of_block (hal.block _ hz2.lt (hE (w.heap.size + 1 + 1) (by omega)).1)).trans hz2.cell
      · exact (World.cell?_of_block (hal.block _ hz3.lt (hE (w.heap.size + 1 + 1 + 1) (by omega)).1)).trans hz3.cell
      · exact hbz.trans ⟨hal.os, hal.tape, hal.output, hal.size, fun i hi => hal.block i (by have := hbz.size; omega) (hE i (by omega)).1⟩
    case stop =>
      rintro D c pre A X hAD ⟨j, hj, hjm⟩ ⟨rfl, pre', x, rfl, hno, hyes, Y, hrc, hb2, hb3, hbe, hKp⟩ hD
      have HF : Hid (M.few T l = some x.l) := hid (M.find_some hjm hno hyes)
      have HV2 : Hid (M.fewV m T l = (M.toI x.l, 0)) := hid (by rw [HV.out, HF.out])
      have HKP := hid hKp
      clear hKp hno hjm
      gi_wp2
      have hk := HKP.out.al (M.shut_al (A := A) [D] X (fun E hEE => by rw [List.mem_singleton.1 hEE]; exact hAD))
      have hrz : M.RC x (M.shut [D] X) := hrc.of_block (hk.old.1 x.g (.inr (.inr (.inr rfl)))).2.1
      refine M.leave [D] _ (fun E hEE => by rw [List.mem_singleton.1 hEE]; exact hD) (by simp) ⟨_, M.res2 rfl _ _ (w.heap.size + 1 + 1) (w.heap.size + 1 + 1 + 1) _ _ rfl rfl ((hk.cell (.inr (.inl rfl))).trans hb2.cell) ((hk.cell (.inr (.inr (.inl rfl)))).trans hb3.cell), some ⟨x.g, 0, none⟩, x.cap, (by rw [HV2.out, M.toI_len]), (by rw [HV2.out]; exact hrz.rd), hbe.trans (hk.below fun i hi => .inl hi)⟩
  · have HV : Hid (M.fewV m T l = ([], M.chkw m T l)) := hid (by unfold M.fewV; rw [if_neg h0])
    rw [HV.out]
    have h0' : (M.chkw m T l == 0) = false := beq_eq_false_iff_ne.2 h0
    generalize M.chkw m T l = y at *
    clear h0
    gi_wp2_with fail
    rw [hV] at *
    clear hV
    refine ⟨trivial, fun _ => by omega, ?_⟩
    refine (callsIn_wide.2 HC.out).mono ?_
    rintro e W1 ⟨rfl, hb1⟩
    have hx2 := M.bxBelow HS.out.b2 hb1
    have hx3 := M.bxBelow HS.out.b3 hb1
    have x2 := hx2.cell
    have x3 := hx3.cell
    have f2 := hx2.frozen
    have f3 := hx3.frozen
    have HB1 := hid hb1
    clear hb1
    gi_wp2
    have hz2 := Boxed.other (hx2.set (.slice none 0 0)) (show w.heap.size + 1 + 1 ≠ w.heap.size + 1 + 1 + 1 by omega) (.int .i64 y)
    have hz3 := (Boxed.other hx3 (show w.heap.size + 1 + 1 + 1 ≠ w.heap.size + 1 + 1 by omega) (.slice none 0 0)).set (.int .i64 y)
    refine ⟨_, M.res2 rfl _ _ _ _ _ _ rfl rfl hz2.cell hz3.cell, none, 0, rfl, RdI.nil _ _, ?_⟩
    exact ((HS.out.below.trans (HB1.out.mono HS.out.below.size)).setCell (p := ⟨w.heap.size + 1 + 1, 0, none⟩) (by show w.heap.size ≤ w.heap.size + 1 + 1; omega) _).setCell (p := ⟨w.heap.size + 1 + 1 + 1, 0, none⟩) (by show w.heap.size ≤ w.heap.size + 1 + 1 + 1; omega) _
end Go.Proofs.YthnklabdjaiplaaDoor
