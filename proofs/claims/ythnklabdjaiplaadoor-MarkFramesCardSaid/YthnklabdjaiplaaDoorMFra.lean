/- Package mark: Frames. -/
import Derived.Test.YthnklabdjaiplaaDoorMFew
import Derived.Test.YthnklabdjaiplaaDoorMShf
namespace Go.Proofs.YthnklabdjaiplaaDoor
open Go.RowKit Go.Shelf
attribute [local go_sem] Oper.semAt_some

/-- Is a customer framed by a coalition? -/
def M.frp (T : List (List Int)) (c : List Nat) (k : Nat) : Bool := !decide ((k : Int) ∈ M.toI c) && M.can T (M.toI c) (T.getD k [])
def M.frw (T : List (List Int)) (c : List Nat) : Option Nat := (List.range T.length).find? (M.frp T c)
/-- The smallest coalition that frames. -/
def M.fra (T : List (List Int)) (n : Nat) : Option (List Nat) := (M.all T.length n).find? fun c => (M.frw T c).isSome
def M.frR (T : List (List Int)) : Option (List Nat) → List Int × Int × Int
  | some c => (M.toI c, ((M.frw T c).getD 0 : Nat), 0)
  | none => ([], 0, 5)
def M.fraV (m : Int) (T : List (List Int)) (sz : Int) : List Int × Int × Int :=
  if M.chk m T = 0 then (if M.sz sz = 0 then M.frR T (M.fra T sz.toNat) else ([], 0, M.sz sz)) else ([], 0, M.chk m T)

theorem M.frw_some {T : List (List Int)} {c : List Nat} {k : Nat} (h1 : k < T.length) (h2 : M.frp T c k = true) (h3 : ∀ j, j < k → M.frp T c j = false) : M.frw T c = some k := by
  unfold M.frw
  rw [List.find?_range_eq_some]
  exact ⟨h2, by simpa using h1, fun j hj => by rw [h3 j hj]; rfl⟩
theorem M.frw_none {T : List (List Int)} {c : List Nat} (h3 : ∀ j, j < T.length → M.frp T c j = false) : M.frw T c = none := by
  unfold M.frw
  rw [List.find?_range_eq_none]
  exact fun j hj => by rw [h3 j hj]; rfl

/-- What Frames hands back. -/
def M.FE (r : List Int × Int × Int) (w : World) (e : Ending) (w' : World) : Prop := ∃ a cap, e = .returned (.tuple #[.slice a r.1.length cap, .int .i64 r.2.1, .int .i64 r.2.2]) ∧ RdI w' a r.1 ∧ Below w.heap.size w w'

/-- The variables of Frames. -/
structure M.GS (w V : World) (m : Int) (a : Option Addr) (n c : Nat) : Prop where
  size : V.heap.size = w.heap.size + 4
  below : Below w.heap.size w V
  c0 : V.cell? ⟨w.heap.size, 0, none⟩ = some (.int .i64 m)
  c1 : V.cell? ⟨w.heap.size, 1, none⟩ = some (.slice a n c)
  b1 : Boxed V (w.heap.size + 1) 25 (.slice none 0 0)
  b2 : Boxed V (w.heap.size + 1 + 1) 3 (.int .i64 0)
  b3 : Boxed V (w.heap.size + 1 + 1 + 1) 29 (.int .i64 0)
theorem M.gsNew (w : World) (m : Int) (a : Option Addr) (n c : Nat) : ∃ V, (((w.alloc (.cells #[.int .i64 m, .slice a n c] 24)).alloc (.cells #[.slice none 0 0] 25)).alloc (.cells #[.int .i64 0] 3)).alloc (.cells #[.int .i64 0] 29) = V ∧ M.GS w V m a n c := by
  refine ⟨_, rfl, by simp, (((Below.refl _ _).alloc (Nat.le_refl _) _).alloc (by simp) _).alloc (by simp; omega) _ |>.alloc (by simp; omega) _, ?_, ?_, ?_, ?_, ?_⟩
  · exact Lib.cell?_alloc_some _ (Lib.cell?_alloc_some _ (Lib.cell?_alloc_some _ (by rw [World.cell?_alloc_at _ _ _ _ rfl]; rfl)))
  · exact Lib.cell?_alloc_some _ (Lib.cell?_alloc_some _ (Lib.cell?_alloc_some _ (by rw [World.cell?_alloc_at _ _ _ _ rfl]; rfl)))
  · have := Boxed.new (w.alloc (.cells #[.int .i64 m, .slice a n c] 24)) 25 (.slice none 0 0)
    rw [World.size_alloc] at this
    exact (this.alloc _).alloc _
  · have := Boxed.new ((w.alloc (.cells #[.int .i64 m, .slice a n c] 24)).alloc (.cells #[.slice none 0 0] 25)) 3 (.int .i64 0)
    rw [World.size_alloc, World.size_alloc] at this
    exact this.alloc _
  · have := Boxed.new (((w.alloc (.cells #[.int .i64 m, .slice a n c] 24)).alloc (.cells #[.slice none 0 0] 25)).alloc (.cells #[.int .i64 0] 3)) 29 (.int .i64 0)
    rw [World.size_alloc, World.size_alloc, World.size_alloc] at this
    exact this

theorem M.res3 {fn : Func} {p q r : Tmp} (h : fn.results = #[.cell p 25, .cell q 3, .cell r 29]) (tmps : Array Value) (w : World) (x y z : Nat) (v u t : Value)
    (hp : tmps.getD p undef = .pointer (some ⟨x, 0, none⟩)) (hq : tmps.getD q undef = .pointer (some ⟨y, 0, none⟩)) (hr : tmps.getD r undef = .pointer (some ⟨z, 0, none⟩)) (h1 : w.cell? ⟨x, 0, none⟩ = some v) (h2 : w.cell? ⟨y, 0, none⟩ = some u) (h3 : w.cell? ⟨z, 0, none⟩ = some t) :
    (results fn tmps).run Tryd.prog w = .ok (.tuple #[v, u, t]) w := by
  have hp' : tmps[p]?.getD undef = .pointer (some ⟨x, 0, none⟩) := by simpa using hp
  have hq' : tmps[q]?.getD undef = .pointer (some ⟨y, 0, none⟩) := by simpa using hq
  have hr' : tmps[r]?.getD undef = .pointer (some ⟨z, 0, none⟩) := by simpa using hr
  have ui := Tryd.underlying25
  have uj := Tryd.underlying3
  have ue := Tryd.underlying29
  simp [results, h, hp', hq', hr', asAddr, loadVar, h1, h2, h3, go_sem]

/-- Three results stored. -/
def M.st3 (W : World) (b : Nat) (u v e : Value) : World := ((W.setCell ⟨b + 1, 0, none⟩ u).setCell ⟨b + 1 + 1, 0, none⟩ v).setCell ⟨b + 1 + 1 + 1, 0, none⟩ e
theorem M.st3_below {n b : Nat} {w W : World} {u v e : Value} (h : Below n w W) (hb : n ≤ b) : Below n w (M.st3 W b u v e) :=
  ((h.setCell (p := ⟨b + 1, 0, none⟩) (by show n ≤ b + 1; omega) _).setCell (p := ⟨b + 1 + 1, 0, none⟩) (by show n ≤ b + 1 + 1; omega) _).setCell (p := ⟨b + 1 + 1 + 1, 0, none⟩) (by show n ≤ b + 1 + 1 + 1; omega) _
theorem M.st3_kq {A : Nat → Prop} {X W : World} {b : Nat} {u v e : Value} (h : M.Kq A X W) (h1 : ¬ A (b + 1)) (h2 : ¬ A (b + 1 + 1)) (h3 : ¬ A (b + 1 + 1 + 1)) : M.Kq A X (M.st3 W b u v e) :=
  ((h.trans (M.Kq.set _ _ h1)).trans (M.Kq.set _ _ h2)).trans (M.Kq.set _ _ h3)
theorem M.st3_block {W : World} {b : Nat} {u v e : Value} {i : Nat} (h1 : i ≠ b + 1) (h2 : i ≠ b + 1 + 1) (h3 : i ≠ b + 1 + 1 + 1) : (M.st3 W b u v e).heap[i]? = W.heap[i]? :=
  (Below.heap_setCell _ _ _ _ h3).trans ((Below.heap_setCell _ _ _ _ h2).trans (Below.heap_setCell _ _ _ _ h1))
theorem M.st3_box {W : World} {b : Nat} {u v e u0 v0 e0 : Value} {t1 t2 t3 : TypeId} (h1 : Boxed W (b + 1) t1 u0) (h2 : Boxed W (b + 1 + 1) t2 v0) (h3 : Boxed W (b + 1 + 1 + 1) t3 e0) :
    Boxed (M.st3 W b u v e) (b + 1) t1 u ∧ Boxed (M.st3 W b u v e) (b + 1 + 1) t2 v ∧ Boxed (M.st3 W b u v e) (b + 1 + 1 + 1) t3 e :=
  ⟨Boxed.other (Boxed.other (h1.set u) (show b + 1 ≠ b + 1 + 1 by omega) v) (show b + 1 ≠ b + 1 + 1 + 1 by omega) e,
   Boxed.other ((Boxed.other h2 (show b + 1 + 1 ≠ b + 1 by omega) u).set v) (show b + 1 + 1 ≠ b + 1 + 1 + 1 by omega) e,
   (Boxed.other (Boxed.other h3 (show b + 1 + 1 + 1 ≠ b + 1 by omega) u) (show b + 1 + 1 + 1 ≠ b + 1 + 1 by omega) v).set e⟩

set_option maxHeartbeats 4000000 in
set_option maxRecDepth 100000 in
theorem Frames_in (n : Nat) (hn : 6 ≤ n) (m : Int) (a : Option Addr) (c : Nat) (T : List (List Int)) (sz : Int) (w : World) (hm : T.length ≤ maxLen) (hml : ∀ i, i < T.length → (T.getD i []).length ≤ maxLen) (hT : RdM w a T) :
    CallsIn Fence.wide n Tryd.prog 22 #[M.cv m a T.length c, .int .i64 sz] w (M.FE (M.fraV m T sz) w) := by
  obtain ⟨V, hV, hS⟩ := M.gsNew w m a T.length c
  have HS := hid hS
  have HC := hid (check_any m a c T V hm hml (hT.stays hS.below))
  have HZ := hid (fun w => checkSize_any sz w)
  have HT := hid (hT.stays hS.below)
  have HT0 := hid hT
  have k0 := hS.c0
  have k1 := hS.c1
  clear hT hS
  unfold M.cv at *
  refine callsIn_of_wp_marks Tryd.func22 rfl trivial ?_ rfl
  simp only [Tryd.ntmps22, List.size_toArray, List.length_cons, List.length_nil, Nat.reduceAdd, Nat.reduceSub, Array.replicate_succ, Array.replicate_zero, List.push_toArray, List.append_toArray, List.nil_append, List.cons_append]
  by_cases h0 : M.chk m T = 0
  · have HOK := hid (M.chk_zero.1 h0)
    have HV : Hid (M.fraV m T sz = if M.sz sz = 0 then M.frR T (M.fra T sz.toNat) else ([], 0, M.sz sz)) := hid (by unfold M.fraV; rw [if_pos h0])
    rw [h0] at HC
    clear h0
    gi_wp2_with fail
    rw [hV] at *
    clear hV
    refine ⟨trivial, fun _ => by omega, ?_⟩
    refine (callsIn_wide.2 HC.out).mono ?_
    rintro e W1 ⟨rfl, hb1⟩
    have x0 := cell_stays hb1 (Nat.le_refl _) k0
    have x1 := cell_stays hb1 (Nat.le_refl _) k1
    have hx1 := M.bxBelow HS.out.b1 hb1
    have hx2 := M.bxBelow HS.out.b2 hb1
    have hx3 := M.bxBelow HS.out.b3 hb1
    have HX1 := hid hx1
    have HX2 := hid hx2
    have HX3 := hid hx3
    have HT1 := hid (HT.out.stays hb1)
    have HB1 := hid (HS.out.below.trans (hb1.mono HS.out.below.size))
    have HS1 : Hid (w.heap.size + 4 ≤ W1.heap.size) := hid (by have := hb1.size; have := HS.out.size; omega)
    clear hb1 k0 k1 HC HT HS
    by_cases hz : M.sz sz = 0
    · have HV2 : Hid (M.fraV m T sz = M.frR T (M.fra T sz.toNat)) := hid (by rw [HV.out, if_pos hz])
      have hsz : 1 ≤ sz ∧ sz ≤ 10 := by
        unfold M.sz at hz
        by_cases h : 1 ≤ sz ∧ sz ≤ 10
        · exact h
        · rw [if_neg h] at hz; omega
      rw [hz] at HZ
      obtain ⟨k, hk⟩ : ∃ k : Nat, sz = (k : Int) := ⟨sz.toNat, by omega⟩
      subst hk
      rw [Int.toNat_natCast] at HV2
      clear hz HV hx1 hx2 hx3
      gi_wp2_with fail
      refine ⟨trivial, fun _ => by omega, ?_⟩
      refine (callsIn_wide.2 (HZ.out _)).mono ?_
      rintro e W2 ⟨rfl, rfl⟩
      gi_wp2_with (refine ⟨trivial, fun _ => by omega, ?_⟩; refine (allCoalitions_in _ T.length k _).mono ?_; rintro e w' ⟨rfl, rfl⟩)
      obtain ⟨V0, hV0⟩ : ∃ V0, (W2.alloc (.cells #[.int .i64 (T.length : Nat)] 3)).alloc (.cells #[.int .i64 (k : Nat)] 3) = V0 := ⟨_, rfl⟩
      have hVs : V0.heap.size = W2.heap.size + 2 := by rw [← hV0]; simp
      have hVb : Below W2.heap.size W2 V0 := by rw [← hV0]; exact ((Below.refl _ _).alloc (Nat.le_refl _) _).alloc (by simp) _
      have v0 : V0.cell? ⟨W2.heap.size, 0, none⟩ = some (.int .i64 (T.length : Nat)) := by
        have h1 : (W2.alloc (.cells #[.int .i64 (T.length : Nat)] 3)).cell? ⟨W2.heap.size, 0, none⟩ = some (.int .i64 (T.length : Nat)) := by rw [World.cell?_alloc_at _ _ _ _ rfl]; rfl
        rw [← hV0]
        exact Lib.cell?_alloc_some _ h1
      have v1 : V0.cell? ⟨W2.heap.size + 1, 0, none⟩ = some (.int .i64 (k : Nat)) := by rw [← hV0, World.cell?_alloc_at _ _ _ _ (by simp)]; rfl
      have hV1 : ∀ o o', ((V0.alloc o).alloc o').cell? ⟨W2.heap.size, 0, none⟩ = some (.int .i64 (T.length : Nat)) := fun o o' => Lib.cell?_alloc_some _ (Lib.cell?_alloc_some _ v0)
      have hV2 : ∀ o o', ((V0.alloc o).alloc o').cell? ⟨W2.heap.size + 1, 0, none⟩ = some (.int .i64 (k : Nat)) := fun o o' => Lib.cell?_alloc_some _ (Lib.cell?_alloc_some _ v1)
      have hKP : M.Kp V0 (fun i => i < W2.heap.size) (fun i => i = W2.heap.size ∨ i = W2.heap.size + 1) V0 := M.Kp.refl (fun i hi => by omega)
      have z0 := cell_stays hVb (Nat.le_refl _) x0
      have z1 := cell_stays hVb (Nat.le_refl _) x1
      have HT2 := hid (HT1.out.stays hVb)
      have HY1 := hid (M.bxBelow HX1.out hVb)
      have HY2 := hid (M.bxBelow HX2.out hVb)
      have HY3 := hid (M.bxBelow HX3.out hVb)
      have HB2 := hid (HB1.out.trans (hVb.mono HB1.out.size))
      have h10 := HOK.out.n10
      have HVB := hid hVb
      rw [hV0]
      clear hV0 x0 x1 HX1 HX2 HX3 HT1 hVb v0 v1
      refine M.range rfl (by omega) (gf := 71) (lb := #[.pointer (some ⟨W2.heap.size + 1, 0, none⟩), .pointer (some ⟨W2.heap.size, 0, none⟩)]) rfl trivial (enters_of Tryd.func71 (by kernel_rfl) rfl)
        (allCoalitions1_seq (n - 1) (by omega) (W2.heap.size + 1) W2.heap.size k T.length (by omega) h10) (M.RN.put T.length) (fun _ => rfl)
        (fun i => i = W2.heap.size ∨ i = W2.heap.size + 1) (by rintro i (rfl | rfl) <;> omega) (fun o o' => ⟨.inr rfl, .inl rfl, hV2 o o', hV1 o o'⟩)
        (fun pre A X => M.Kp V0 (fun i => i < W2.heap.size) A X ∧ ∀ x, x ∈ pre → (M.frw T x.l).isSome = false)
        (fun c pre A X => c = .ret ∧ ∃ pre' x who, pre = pre' ++ [x] ∧ (∀ y, y ∈ pre' → (M.frw T y.l).isSome = false) ∧ M.frw T x.l = some who ∧ ∃ Y, M.RC x Y ∧ Boxed Y (w.heap.size + 1) 25 (.slice (some ⟨x.g, 0, none⟩) x.l.length x.cap) ∧ Boxed Y (w.heap.size + 1 + 1) 3 (.int .i64 (who : Nat)) ∧ Boxed Y (w.heap.size + 1 + 1 + 1) 29 (.int .i64 0) ∧ Below w.heap.size w Y ∧ M.Kp Y (fun i => i < w.heap.size ∨ i = w.heap.size + 1 ∨ i = w.heap.size + 1 + 1 ∨ i = w.heap.size + 1 + 1 + 1 ∨ i = x.g) A X)
        (fun _ _ _ _ _ h k => ⟨h.1.al k, h.2⟩) (fun _ _ _ _ _ _ h k => by
          obtain ⟨h1, pre', x, who, h2, h3, h4, Y, h5, h6, h7, h8, h9, h10⟩ := h
          exact ⟨h1, pre', x, who, h2, h3, h4, Y, h5, h6, h7, h8, h9, h10.al k⟩)
        ⟨hKP, fun x hx => by simp at hx⟩
        (fun x => { tmps := #[.agg #[.int .i64 m, .slice a T.length c], .int .i64 (k : Nat), .pointer (some ⟨w.heap.size, 0, none⟩), undef, .pointer (some ⟨w.heap.size + 1, 0, none⟩), .pointer (some ⟨w.heap.size + 1 + 1, 0, none⟩), .pointer (some ⟨w.heap.size + 1 + 1 + 1, 0, none⟩), .int .i64 0, .int .i64 0, .slice (some ⟨x.g, 0, none⟩) x.l.length x.cap, undef, undef, .agg #[.int .i64 m, .slice a T.length c], .int .i64 0, .int .i64 0, .bool false, undef, .int .i64 (k : Nat), .int .i64 0, .int .i64 0, .bool false, undef, .pointer (some ⟨w.heap.size, 1, none⟩), .slice a T.length c, .int .i64 (T.length : Nat), .int .i64 (k : Nat), .func (.func 71) #[] #[.pointer (some ⟨W2.heap.size + 1, 0, none⟩), .pointer (some ⟨W2.heap.size, 0, none⟩)], .slice (some ⟨x.g, 0, none⟩) x.l.length x.cap, undef, undef, undef, undef, undef, undef, undef, undef, undef, undef, undef, undef, undef, undef, undef, undef, undef, undef, undef, undef, undef], defers := [] })
        ?assign ?body ?done ?stop (M.RN.cells T.length)
      case assign =>
        intro li x X K hK
        unfold M.encC
        gi_wp2
        exact hK
      case body =>
        rintro li pre x A X ⟨hKp, hno⟩ hR hx hAlt hlen
        have y0 := (hKp.cell (o := 0) (show w.heap.size < W2.heap.size by have := HS1.out; omega)).trans z0
        have y1 := (hKp.cell (o := 1) (show w.heap.size < W2.heap.size by have := HS1.out; omega)).trans z1
        have HBX : Hid (Below w.heap.size w X) := hid (HB2.out.trans (hKp.below (fun i hi => by have := HS1.out; omega)))
        have hin : M.In T.length (M.toI x.l) := fun i hi => by
          unfold M.toI at hi
          obtain ⟨z, hz, rfl⟩ := List.mem_map.1 hi
          have := M.asc_lt hR.2.1 z hz
          omega
        have hxl : x.l.length ≤ 10 := hR.2.2
        have HRD := hid hR.1.rd
        have HCN := hid (fun (j : Nat) (hj : j < T.length) (r : Option Addr) (cr : Nat) (Z : World) (hb : Below X.heap.size X Z) (hr : RdI Z r (T.getD j [])) => canMake_any m a c T (some ⟨x.g, 0, none⟩) x.cap (M.toI x.l) r cr (T.getD j []) Z ⟨HOK.out, by rw [M.toI_len]; unfold maxLen; omega, hin, HOK.out.len j hj, fun i hi => HOK.out.rng j i hj hi⟩ (HT0.out.stays (HBX.out.trans (hb.mono HBX.out.size))) (HRD.out.stays hb) hr)
        have HCT := hid (fun (j : Int) (Z : World) (hb : Below X.heap.size X Z) => contains_any (some ⟨x.g, 0, none⟩) x.cap (M.toI x.l) j Z (by rw [M.toI_len]; unfold maxLen; omega) (HRD.out.stays hb))
        rw [M.toI_len] at HCN HCT
        unfold M.cv at HCN
        have HKP := hid hKp
        have HNO := hid hno
        have HR := hid hR
        have HX := hid hx
        have HAL := hid hAlt
        clear hKp hno hR hx hAlt hin
        gi_wp2
        gi_loopw [31] (fun i wr => ∃ j : Nat, j ≤ T.length ∧ i = .int .i64 j ∧ (∀ i, i < j → M.frp T x.l i = false) ∧ Below X.heap.size X wr) (fun i _ => T.length - (intOf i).toNat)
        case atStart => exact ⟨0, Nat.zero_le _, rfl, fun j hj => absurd hj (Nat.not_lt_zero _), Below.refl _ _⟩
        case round =>
          obtain ⟨j, hj, rfl, hn0, hb⟩ := hrel
          have HN0 := hid hn0
          have HBR := hid hb
          have w0 := cell_stays hb (Nat.le_refl _) y0
          have w1 := cell_stays hb (Nat.le_refl _) y1
          clear hn0 hb y0 y1
          by_cases hlt : j < T.length
          · obtain ⟨b2, o2, r2, cr2, he2, hck, hrk⟩ := M.row (HT0.out.stays (HBX.out.trans (HBR.out.mono HBX.out.size))) hlt
            subst he2
            have HRK := hid hrk
            have HCTJ := hid (HCT.out (j : Int) wr HBR.out)
            have HCNJ := hid (HCN.out j hlt r2 cr2 wr HBR.out hrk)
            have hfp : M.frp T x.l j = (!decide ((j : Int) ∈ M.toI x.l) && M.can T (M.toI x.l) (T.getD j [])) := rfl
            have HJ := hid hlt
            rw [HOK.out.len j hlt] at hck HCNJ
            clear hrk
            obtain ⟨B1, hB1⟩ : ∃ b, decide ((j : Int) ∈ M.toI x.l) = b := ⟨_, rfl⟩
            obtain ⟨B2, hB2⟩ : ∃ b, M.can T (M.toI x.l) (T.getD j []) = b := ⟨_, rfl⟩
            rw [hB1] at HCTJ
            rw [hB2] at HCNJ
            have HFP : Hid (M.frp T x.l j = (!B1 && B2)) := hid (by rw [hfp, hB1, hB2])
            have HNX : Hid (M.frp T x.l j = false → ∀ i, i < j + 1 → M.frp T x.l i = false) := hid (fun h i hi => by
              rcases Nat.lt_succ_iff_lt_or_eq.1 hi with h1 | rfl
              · exact HN0.out i h1
              · exact h)
            have HFS : Hid (M.frp T x.l j = true → M.frw T x.l = some j) := hid (fun h => M.frw_some HJ.out h HN0.out)
            clear hfp hB1 hB2
            cases B1 with
            | true =>
              have HQ := hid (HNX.out HFP.out)
              gi_wp2_with fail
              refine ⟨trivial, fun _ => by omega, ?_⟩
              refine (CallsIn.inRound li (callsIn_wide.2 HCTJ.out)).mono ?_
              rintro e W5 ⟨rfl, rfl⟩
              gi_wp2
              refine ⟨trivial, ?_⟩
              gi_wp2
              go_roundw
              case rel => exact ⟨j + 1, by omega, by go_num, HQ.out, HBR.out⟩
              case measure => simp [intOf]; omega
            | false =>
              cases B2 with
              | false =>
                have HQ := hid (HNX.out HFP.out)
                gi_wp2_with fail
                refine ⟨trivial, fun _ => by omega, ?_⟩
                refine (CallsIn.inRound li (callsIn_wide.2 HCTJ.out)).mono ?_
                rintro e W5 ⟨rfl, rfl⟩
                gi_wp2_with fail
                refine ⟨trivial, fun _ => by omega, ?_⟩
                refine (CallsIn.inRound li (callsIn_wide.2 HCNJ.out)).mono ?_
                rintro e W6 ⟨rfl, hb6⟩
                have HB6 := hid (HBR.out.trans (hb6.mono HBR.out.size))
                clear hb6
                gi_wp2
                go_roundw
                case rel => exact ⟨j + 1, by omega, by go_num, HQ.out, HB6.out⟩
                case measure => simp [intOf]; omega
              | true =>
                have HQ := hid (HFS.out HFP.out)
                gi_wp2_with fail
                refine ⟨trivial, fun _ => by omega, ?_⟩
                refine (CallsIn.inRound li (callsIn_wide.2 HCTJ.out)).mono ?_
                rintro e W5 ⟨rfl, rfl⟩
                gi_wp2_with fail
                refine ⟨trivial, fun _ => by omega, ?_⟩
                refine (CallsIn.inRound li (callsIn_wide.2 HCNJ.out)).mono ?_
                rintro e W6 ⟨rfl, hb6⟩
                have HB6 := hid (HBR.out.trans (hb6.mono HBR.out.size))
                clear hb6
                have hs1 := HS1.out
                have hq1 : Boxed X (w.heap.size + 1) 25 (.slice none 0 0) := (HKP.out.old.1 _ (by omega)).2.1.trans HY1.out
                have hq2 : Boxed X (w.heap.size + 1 + 1) 3 (.int .i64 0) := (HKP.out.old.1 _ (by omega)).2.1.trans HY2.out
                have hq3 : Boxed X (w.heap.size + 1 + 1 + 1) 29 (.int .i64 0) := (HKP.out.old.1 _ (by omega)).2.1.trans HY3.out
                have hx1 := M.bxBelow hq1 HB6.out
                have hx2 := M.bxBelow hq2 HB6.out
                have hx3 := M.bxBelow hq3 HB6.out
                have x1 := hx1.cell
                have x2 := hx2.cell
                have x3 := hx3.cell
                have f1 := hx1.frozen
                have f2 := hx2.frozen
                have f3 := hx3.frozen
                have HX1 := hid hx1
                have HX2 := hid hx2
                have HX3 := hid hx3
                clear hq1 hq2 hq3 hx1 hx2 hx3
                gi_wp2
                have hgx := HX.out x.g rfl
                have hz := M.st3_box (u := .slice (some ⟨x.g, 0, none⟩) x.l.length x.cap) (v := .int .i64 (j : Nat)) (e := .int .i64 0) HX1.out HX2.out HX3.out
                have hE := HKP.out.old.1
                have hkq : M.Kq A X (M.st3 W6 w.heap.size (.slice (some ⟨x.g, 0, none⟩) x.l.length x.cap) (.int .i64 (j : Nat)) (.int .i64 0)) :=
                  M.st3_kq (M.Kq.of_below HB6.out HAL.out) (hE _ (by omega)).1 (hE _ (by omega)).1 (hE _ (by omega)).1
                have hbz : Below w.heap.size w (M.st3 W6 w.heap.size (.slice (some ⟨x.g, 0, none⟩) x.l.length x.cap) (.int .i64 (j : Nat)) (.int .i64 0)) :=
                  M.st3_below (HBX.out.trans (HB6.out.mono HBX.out.size)) (Nat.le_refl _)
                have hrc : M.RC x (M.st3 W6 w.heap.size (.slice (some ⟨x.g, 0, none⟩) x.l.length x.cap) (.int .i64 (j : Nat)) (.int .i64 0)) :=
                  HR.out.1.of_block ((M.st3_block (by omega) (by omega) (by omega)).trans (HB6.out.block _ HR.out.1.lt))
                refine ⟨hkq, rfl, pre, x, j, rfl, HNO.out, HQ.out, _, hrc, hz.1, hz.2.1, hz.2.2, hbz, M.Kp.refl ?_⟩
                have hl := hrc.lt
                rintro i (hi | rfl | rfl | rfl | rfl)
                · exact ⟨(hE i (by omega)).1, by have := hbz.size; omega⟩
                · exact ⟨(hE _ (by omega)).1, hz.1.lt⟩
                · exact ⟨(hE _ (by omega)).1, hz.2.1.lt⟩
                · exact ⟨(hE _ (by omega)).1, hz.2.2.lt⟩
                · exact ⟨hgx.1, hl⟩
          · have hje : j = T.length := by omega
            subst hje
            have HFN := hid (M.frw_none HN0.out)
            gi_wp2
            exact ⟨M.Kq.of_below HBR.out HAL.out, HKP.out.stays HBR.out, fun y hy => by
              rcases List.mem_append.1 hy with h | h
              · exact HNO.out y h
              · rw [List.mem_singleton.1 h, HFN.out]; rfl⟩
      case done =>
        rintro D xs A X hAD hS ⟨hKp, hno⟩ hAlt hD
        have HF : Hid (M.fra T k = none) := hid (M.find_none (f := fun x : M.Cx => x.l) (p := fun c => (M.frw T c).isSome) hS hno)
        have HV3 : Hid (M.fraV m T k = ([], 0, 5)) := hid (by rw [HV2.out, HF.out]; rfl)
        have hs1 := HS1.out
        have hx1 : Boxed X (w.heap.size + 1) 25 (.slice none 0 0) := (hKp.old.1 _ (by omega)).2.1.trans HY1.out
        have hx2 : Boxed X (w.heap.size + 1 + 1) 3 (.int .i64 0) := (hKp.old.1 _ (by omega)).2.1.trans HY2.out
        have hx3 : Boxed X (w.heap.size + 1 + 1 + 1) 29 (.int .i64 0) := (hKp.old.1 _ (by omega)).2.1.trans HY3.out
        have x1 := hx1.cell
        have x2 := hx2.cell
        have x3 := hx3.cell
        have f1 := hx1.frozen
        have f2 := hx2.frozen
        have f3 := hx3.frozen
        have HKP := hid hKp
        have HX1 := hid hx1
        have HX2 := hid hx2
        have HX3 := hid hx3
        clear hx1 hx2 hx3 hKp hno hAlt hS
        gi_wp2
        have hz := M.st3_box (u := .slice none 0 0) (v := .int .i64 0) (e := .int .i64 5) HX1.out HX2.out HX3.out
        have hE := HKP.out.old.1
        have hbz : Below w.heap.size w (M.st3 X w.heap.size (.slice none 0 0) (.int .i64 0) (.int .i64 5)) := M.st3_below (HB2.out.trans (HKP.out.below (fun i hi => by omega))) (Nat.le_refl _)
        have hDn : ∀ i, i < W2.heap.size → i ≠ D := fun i hi e => (hE i hi).1 (e ▸ hAD)
        have hDw : w.heap.size ≤ D := Nat.le_of_not_lt fun hl => hDn D (by omega) rfl
        have hal := M.shut_al (A := A) [D] (M.st3 X w.heap.size (.slice none 0 0) (.int .i64 0) (.int .i64 5)) (fun E hEE => by rw [List.mem_singleton.1 hEE]; exact hAD)
        refine M.leave [D] _ (fun E hEE => ?_) (by simp) ⟨_, M.res3 rfl _ _ (w.heap.size + 1) (w.heap.size + 1 + 1) (w.heap.size + 1 + 1 + 1) _ _ _ rfl rfl rfl ?_ ?_ ?_, none, 0, (by rw [HV3.out]), (by rw [HV3.out]; exact RdI.nil _ _), ?_⟩
        · rw [List.mem_singleton.1 hEE]
          exact (M.st3_block (hDn _ (by omega)).symm (hDn _ (by omega)).symm (hDn _ (by omega)).symm).trans hD
        · exact (World.cell?_of_block (hal.block _ hz.1.lt (hE (w.heap.size + 1) (by omega)).1)).trans hz.1.cell
        · exact (World.cell?_of_block (hal.block _ hz.2.1.lt (hE (w.heap.size + 1 + 1) (by omega)).1)).trans hz.2.1.cell
        · exact (World.cell?_of_block (hal.block _ hz.2.2.lt (hE (w.heap.size + 1 + 1 + 1) (by omega)).1)).trans hz.2.2.cell
        · exact hbz.trans ⟨hal.os, hal.tape, hal.output, hal.size, fun i hi => hal.block i (by have := hbz.size; omega) (hE i (by omega)).1⟩
      case stop =>
        rintro D c pre A X hAD ⟨j, hj, hjm⟩ ⟨rfl, pre', x, who, rfl, hno, hyes, Y, hrc, hb1, hb2, hb3, hbe, hKp⟩ hD
        have HF : Hid (M.fra T k = some x.l) := hid (M.find_some (f := fun x : M.Cx => x.l) (p := fun c => (M.frw T c).isSome) hjm hno (show (M.frw T x.l).isSome = true by rw [hyes]; rfl))
        have HV3 : Hid (M.fraV m T k = (M.toI x.l, ((who : Nat) : Int), 0)) := hid (by rw [HV2.out, HF.out]; show (M.toI x.l, (((M.frw T x.l).getD 0 : Nat) : Int), (0 : Int)) = _; rw [hyes]; rfl)
        have HKP := hid hKp
        clear hKp hno hjm hyes
        gi_wp2
        have hk := HKP.out.al (M.shut_al (A := A) [D] X (fun E hEE => by rw [List.mem_singleton.1 hEE]; exact hAD))
        have hrz : M.RC x (M.shut [D] X) := hrc.of_block (hk.old.1 x.g (.inr (.inr (.inr (.inr rfl))))).2.1
        refine M.leave [D] _ (fun E hEE => by rw [List.mem_singleton.1 hEE]; exact hD) (by simp) ⟨_, M.res3 rfl _ _ (w.heap.size + 1) (w.heap.size + 1 + 1) (w.heap.size + 1 + 1 + 1) _ _ _ rfl rfl rfl ((hk.cell (.inr (.inl rfl))).trans hb1.cell) ((hk.cell (.inr (.inr (.inl rfl)))).trans hb2.cell) ((hk.cell (.inr (.inr (.inr (.inl rfl))))).trans hb3.cell), some ⟨x.g, 0, none⟩, x.cap, (by rw [HV3.out, M.toI_len]), (by rw [HV3.out]; exact hrz.rd), hbe.trans (hk.below fun i hi => .inl hi)⟩
    · have HV2 : Hid (M.fraV m T sz = ([], 0, M.sz sz)) := hid (by rw [HV.out, if_neg hz])
      have hz' : (M.sz sz == 0) = false := beq_eq_false_iff_ne.2 hz
      have HV3 : Hid (M.fraV m T sz = ([], 0, M.sz sz)) := HV2
      clear HV2 HV
      generalize M.sz sz = y at *
      have c1 := hx1.cell
      have c2 := hx2.cell
      have c3 := hx3.cell
      have f1 := hx1.frozen
      have f2 := hx2.frozen
      have f3 := hx3.frozen
      clear hz hx1 hx2 hx3
      gi_wp2_with fail
      refine ⟨trivial, fun _ => by omega, ?_⟩
      refine (callsIn_wide.2 (HZ.out _)).mono ?_
      rintro e w' ⟨rfl, rfl⟩
      gi_wp2
      have hz := M.st3_box (u := .slice none 0 0) (v := .int .i64 0) (e := .int .i64 y) HX1.out HX2.out HX3.out
      exact ⟨_, M.res3 rfl _ _ _ _ _ _ _ _ rfl rfl rfl hz.1.cell hz.2.1.cell hz.2.2.cell, none, 0, by rw [HV3.out]; rfl, by rw [HV3.out]; exact RdI.nil _ _, M.st3_below HB1.out (Nat.le_refl _)⟩
  · have HV : Hid (M.fraV m T sz = ([], 0, M.chk m T)) := hid (by unfold M.fraV; rw [if_neg h0])
    rw [HV.out]
    have h0' : (M.chk m T == 0) = false := beq_eq_false_iff_ne.2 h0
    generalize M.chk m T = y at *
    clear h0
    gi_wp2_with fail
    rw [hV] at *
    clear hV
    refine ⟨trivial, fun _ => by omega, ?_⟩
    refine (callsIn_wide.2 HC.out).mono ?_
    rintro e W1 ⟨rfl, hb1⟩
    have hx1 := M.bxBelow HS.out.b1 hb1
    have hx2 := M.bxBelow HS.out.b2 hb1
    have hx3 := M.bxBelow HS.out.b3 hb1
    have x1 := hx1.cell
    have x2 := hx2.cell
    have x3 := hx3.cell
    have f1 := hx1.frozen
    have f2 := hx2.frozen
    have f3 := hx3.frozen
    have HX1 := hid hx1
    have HX2 := hid hx2
    have HX3 := hid hx3
    have HB1 := hid hb1
    clear hb1 hx1 hx2 hx3
    gi_wp2
    have hz := M.st3_box (u := .slice none 0 0) (v := .int .i64 0) (e := .int .i64 y) HX1.out HX2.out HX3.out
    exact ⟨_, M.res3 rfl _ _ _ _ _ _ _ _ rfl rfl rfl hz.1.cell hz.2.1.cell hz.2.2.cell, none, 0, rfl, RdI.nil _ _, M.st3_below (HS.out.below.trans (HB1.out.mono HS.out.below.size)) (Nat.le_refl _)⟩
end Go.Proofs.YthnklabdjaiplaaDoor
