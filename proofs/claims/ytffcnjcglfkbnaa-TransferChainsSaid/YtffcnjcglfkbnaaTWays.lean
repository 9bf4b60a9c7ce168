/- Package transfer: lists of pairs; the walk of waysOf. -/
import Derived.Test.YtffcnjcglfkbnaaTRChk
import Derived.OwnWalk
import Derived.Deep.OwnRows
namespace Go.Proofs.Ytffcnjcglfkbnaa
open Go.RowKit

/-- The slice with this address reads as these pairs. -/
def RdP (w : World) (a : Option Addr) (xs : List (Int × Int)) : Prop :=
  ∀ k (h : k < xs.length), ∃ b off, a = some ⟨b, off, none⟩ ∧ w.cell? ⟨b, off + k * 2, none⟩ = some (.int .i64 xs[k].1) ∧ w.cell? ⟨b, off + k * 2 + 1, none⟩ = some (.int .i64 xs[k].2)

theorem RdP.stays {w w' : World} {a : Option Addr} {xs : List (Int × Int)} (h : RdP w a xs) (hb : Below w.heap.size w w') : RdP w' a xs := fun k hk => by
  obtain ⟨b, off, ha, h1, h2⟩ := h k hk
  exact ⟨b, off, ha, cell_stays hb (Nat.le_refl _) h1, cell_stays hb (Nat.le_refl _) h2⟩

def pairCells (xs : List (Int × Int)) : List Value := xs.flatMap fun p => [.int .i64 p.1, .int .i64 p.2]

theorem pairCells_length (xs : List (Int × Int)) : (pairCells xs).length = xs.length * 2 := by
  induction xs with
  | nil => rfl
  | cons x xs ih => simp [pairCells] at *; omega

theorem pairCells_get (xs : List (Int × Int)) : ∀ k (h : k < xs.length), (pairCells xs)[k * 2]? = some (.int .i64 xs[k].1) ∧ (pairCells xs)[k * 2 + 1]? = some (.int .i64 xs[k].2) := by
  induction xs with
  | nil => intro k h; exact absurd h (Nat.not_lt_zero _)
  | cons x xs ih =>
    intro k h
    cases k with
    | zero => exact ⟨rfl, rfl⟩
    | succ k =>
      have := ih k (by simpa using h)
      rw [Nat.succ_mul]
      exact this

theorem RdP.of_row {w : World} {base : Nat} {e : TypeId} {v : Value} {n : Nat} {xs : List (Int × Int)} (h : w.ownsRow base e 2 v n (pairCells xs)) :
    ∃ a cap, v = .slice a xs.length cap ∧ RdP w a xs := by
  have hl : xs.length = n := by have := h.1; rw [pairCells_length] at this; omega
  subst hl
  rcases h.2 with ⟨rfl, h2⟩ | ⟨g, cap, cur, rfl, _⟩
  · exact ⟨none, 0, by rw [h2], fun k hk => by omega⟩
  · refine ⟨_, cap, rfl, fun k hk => ⟨g, 0, rfl, ?_, ?_⟩⟩
    · rw [World.ownsRow.cellAt h _ (by omega)]
      simpa using (pairCells_get xs k hk).1
    · rw [World.ownsRow.cellAt h _ (by omega)]
      simpa using (pairCells_get xs k hk).2

theorem pairCells_snoc (xs : List (Int × Int)) (p : Int × Int) : pairCells (xs ++ [p]) = pairCells xs ++ [.int .i64 p.1, .int .i64 p.2] := by
  simp [pairCells]

/-- The ways of numbers i to i + n - 1. -/
def K.pr (o : Option (Nat × Nat)) : Int × Int := match o with
  | some (i, k) => ((i : Nat), (k : Nat))
  | none => (0, 0)
def K.ways (l : List Int) : Nat → List (Int × Int)
  | 0 => []
  | n + 1 => K.ways l n ++ [K.pr (K.way (l.take (n + 1)) (l.getD (n + 1) 0))]
theorem K.ways_length (l : List Int) : ∀ n, (K.ways l n).length = n
  | 0 => rfl
  | n + 1 => by simp [K.ways, K.ways_length l n]
theorem below_grown {w w' : World} (h : Below w.heap.size w w') : w.grownBy w' none := ⟨h.os, h.tape, h.output, h.size, fun k hk _ => h.block k hk⟩
theorem ownsRow_stays {w w' : World} {base : Nat} {e : TypeId} {size : Nat} {v : Value} {n : Nat} {xs : List Value} (h : w.ownsRow base e size v n xs) (hb : Below w.heap.size w w') : w'.ownsRow base e size v n xs :=
  h.kept (below_grown hb) (Classical.em _)
/-- What a valid chain is. -/
structure K.Chain (l : List Int) : Prop where
  few : l.length ≤ 20
  some : 1 ≤ l.length
  img : ∀ k, k < l.length → K.img (l.getD k 0) = true
  asc : l.Pairwise (· < ·)
  way : ∀ i, 1 ≤ i → i < l.length → (K.way (l.take i) (l.getD i 0)).isSome = true
theorem K.allWay_get {l : List Int} : ∀ (n i : Nat), K.allWay l n i = true → ∀ j, i ≤ j → j < i + n → (K.way (l.take j) (l.getD j 0)).isSome = true
  | 0, i, _, j, h1, h2 => absurd h2 (by omega)
  | n + 1, i, h, j, h1, h2 => by
    have h' : ((K.way (l.take i) (l.getD i 0)).isSome && K.allWay l n (i + 1)) = true := h
    rw [Bool.and_eq_true] at h'
    by_cases e : j = i
    · rw [e]; exact h'.1
    · exact K.allWay_get n (i + 1) h'.2 j (by omega) (by omega)
theorem K.chain_of {l : List Int} (h : K.chk l = 0) : K.Chain l := by
  unfold K.chk at h
  split at h
  · omega
  rename_i h1
  split at h
  · omega
  rename_i h2
  split at h
  · rename_i h3; exact absurd h h3
  rename_i h3
  obtain ⟨i1, i2⟩ := K.asc_zero (l := l) (p := 0) (by omega)
  split at h
  · omega
  split at h
  case isFalse => omega
  rename_i h5
  refine ⟨by omega, by omega, fun k hk => ?_, i2, fun i hi1 hi2 => K.allWay_get _ 1 h5 i hi1 (by omega)⟩
  have e : l.getD k 0 = l[k] := by simp [List.getD, hk]
  rw [e]; exact (i1 _ (List.getElem_mem hk)).1
theorem K.pairOf_pr (o : Option (Nat × Nat)) : K.pairOf o 0 = .agg #[.int .i64 (K.pr o).1, .int .i64 (K.pr o).2] := by
  cases o with
  | none => rfl
  | some p => rfl

/-- What the walks ask of a chain in memory. -/
theorem wayOf_at {l : List Int} (hl : K.Chain l) {b off c i : Nat} (hc : l.length ≤ c) (hcm : c ≤ maxLen) (_hi1 : 1 ≤ i) (hlt : i < l.length) (W : World) (hx : ∀ k, k < l.length → W.cell? ⟨b, off + k, none⟩ = some (.int .i64 (l.getD k 0))) :
    Calls Try.prog 52 #[.slice (some ⟨b, off, none⟩) i c, .int .i64 (l.getD i 0)] W fun e w' => e = .returned (.tuple #[K.pairOf (K.way (l.take i) (l.getD i 0)) 0, .bool (K.way (l.take i) (l.getD i 0)).isSome]) ∧ Below W.heap.size W w' := by
  have htl : (l.take i).length = i := by rw [List.length_take]; omega
  have hget : ∀ k, k < i → (l.take i).getD k 0 = l.getD k 0 := fun k hk => by simp [List.getD, hk]
  have h20 := hl.few
  have h := wayOf_any b off c (l.take i) (l.getD i 0) W (by omega) (by omega) hcm (by have := K.img_iff (hl.img i hlt); omega) (fun k hk => by
    rw [hget k (by omega)]
    have := K.img_iff (hl.img k (by omega)); omega) (hl.asc.sublist (List.take_sublist _ _)) (fun k hk => by
    rw [hget k (by omega)]
    exact hx k (by omega))
  rw [htl] at h
  exact h

set_option maxHeartbeats 8000000 in
set_option maxRecDepth 100000 in
theorem waysOf_any (b off c : Nat) (l : List Int) (w : World) (hl : K.Chain l) (hc : l.length ≤ c) (hcm : c ≤ maxLen) (hx : ∀ k, k < l.length → w.cell? ⟨b, off + k, none⟩ = some (.int .i64 (l.getD k 0))) :
    Calls Try.prog 47 #[.slice (some ⟨b, off, none⟩) l.length c] w fun e w' => ∃ r cr, e = .returned (.slice r (K.ways l (l.length - 1)).length cr) ∧ RdP w' r (K.ways l (l.length - 1)) ∧ Below w.heap.size w w' := by
  have hcm' := hcm
  unfold maxLen at hcm'
  have HX := hid hx
  have HL := hid hl
  have h20 := hl.few
  have h1l := hl.some
  obtain ⟨i0, hi, hz0, hz1, hz2⟩ := info_parts (show (Try.prog.info? 58).map (fun i => (i.zero, i.size, i.bytes)) = some (some (.agg #[.int .i64 0, .int .i64 0]), 2, 16) by kernel_rfl)
  clear hx hl
  have HB := hid (Below.refl w.heap.size w)
  go_enter Try.func47, Try.ntmps47
  go_wp2
  go_loopw [3, 4] (fun v s wr => ∃ i : Nat, 1 ≤ i ∧ i ≤ l.length ∧ s = .int .i64 i ∧ wr.ownsRow w.heap.size 58 2 v (i - 1) (pairCells (K.ways l (i - 1))) ∧ Below w.heap.size w wr) (fun _ s _ => l.length - (intOf s).toNat)
  case atStart => exact ⟨1, Nat.le_refl _, h1l, rfl, World.ownsRow_nil _ _ _ _, HB.out⟩
  case round =>
    obtain ⟨i, hi1, hi2, rfl, hown, hb⟩ := hrel
    have HO := hid hown
    have HBR := hid hb
    clear hown
    by_cases hlt : i < l.length
    · have hci := cell_stays hb (Nat.le_refl _) (HX.out i hlt)
      have HWY := hid (fun W (hW : Hid (Below wr.heap.size wr W)) => by
        have h := wayOf_at HL.out hc hcm hi1 hlt W (fun k hk => cell_stays (hb.trans (hW.out.mono hb.size)) (Nat.le_refl _) (HX.out k hk))
        rw [K.pairOf_pr] at h
        exact h.mono (R' := fun e w' => e = .returned (.tuple #[.agg #[.int .i64 (K.pr (K.way (l.take i) (l.getD i 0))).1, .int .i64 (K.pr (K.way (l.take i) (l.getD i 0))).2], .bool (K.way (l.take i) (l.getD i 0)).isSome]) ∧ Hid (Below wr.heap.size wr w') ∧ Hid (Below W.heap.size W w')) (fun e w' hq => ⟨hq.1, hid (hW.out.trans (hq.2.mono hW.out.size)), hid hq.2⟩))
      have HWS : Hid (K.ways l (i - 1 + 1) = K.ways l (i - 1) ++ [K.pr (K.way (l.take i) (l.getD i 0))]) := hid (by
        show K.ways l (i - 1) ++ [K.pr (K.way (l.take (i - 1 + 1)) (l.getD (i - 1 + 1) 0))] = _
        rw [show i - 1 + 1 = i by omega])
      have h1 : (0 : Int) ≤ (i : Int) ∧ (i : Int) < (l.length : Int) := by omega
      have h2 : (0 : Int) ≤ (i : Int) ∧ (i : Int) ≤ (c : Int) := by omega
      have h3 : ¬ c = 0 := by omega
      generalize (K.way (l.take i) (l.getD i 0)).isSome = bo at HWY
      generalize K.pr (K.way (l.take i) (l.getD i 0)) = pq at HWY HWS
      obtain ⟨p, q⟩ := pq
      generalize l.getD i 0 = x at *
      have HCL := hid (fun W (h : Below wr.heap.size wr W) => show W.cell? ⟨b, off + i, none⟩ = some (.int .i64 x) from cell_stays h (Nat.le_refl _) hci)
      clear hb hci
      have hd : Hid (Below wr.heap.size wr wr.drew) := hid (Below.refl _ _).drew
      have q0 := HCL.out _ hd.out
      go_wp2
      go_region_held3 (fun W => W.cell? ⟨b, off + i, none⟩ = some (.int .i64 x)) (first | exact HCL.out _ (Hid.out (by assumption)) | exact HCL.out _ (hb2.out.alloc hb2.out.size _) | exact HCL.out _ ((hb2.out.setCell (p := ⟨wr.heap.size, 0, none⟩) (Nat.le_refl _) _).setCell (p := ⟨wr.heap.size, 1, none⟩) (Nat.le_refl _) _) | exact HCL.out _ ((Below.refl _ _).alloc (Nat.le_refl _) _).drew | exact HCL.out _ ((Below.refl _ _).drew.alloc (Nat.le_refl _) _) | go_keep) (first | (go_at_call 52; (with_reducible refine (HWY.out _ (hid ((Below.refl _ _).alloc (Nat.le_refl _) _).drew)).mono ?_); rintro e w2 ⟨rfl, hb2, hb3⟩; obtain ⟨g0, g1, g2, g3⟩ := newCells rfl hb3.out) | (go_at_call 52; (with_reducible refine (HWY.out _ (by assumption)).mono ?_); rintro e w2 ⟨rfl, hb2, hb3⟩))
      · have c0 : (w2.alloc (.cells #[.int .i64 p, .int .i64 q] 58)).cell? ⟨w2.heap.size, 0, none⟩ = some (.int .i64 p) := by rw [World.cell?_alloc_at _ _ _ _ rfl]; rfl
        have c1 : (w2.alloc (.cells #[.int .i64 p, .int .i64 q] 58)).cell? ⟨w2.heap.size, 1, none⟩ = some (.int .i64 q) := by rw [World.cell?_alloc_at _ _ _ _ rfl]; rfl
        have hbw : Below wr.heap.size wr (w2.alloc (.cells #[.int .i64 p, .int .i64 q] 58)) := hb2.out.alloc hb2.out.size _
        generalize w2.alloc (.cells #[.int .i64 p, .int .i64 q] 58) = w3 at c0 c1 hbw ⊢
        generalize w2.heap.size = g at c0 c1 ⊢
        have HO3 := hid (ownsRow_stays HO.out hbw)
        have HB3 := hid (HBR.out.trans (hbw.mono HBR.out.size))
        clear hbw q0 HWY hd HCL HO HBR hb2 hb3
        go_wp2_with (at_builtin; refine wpList_append_own _ rfl _ _ 24 rfl w.heap.size 58 i0 (.agg #[.int .i64 0, .int .i64 0]) 2 16 Try.underlying24 hi hz0 hz1 hz2 rfl (by decide) _ _ _ rfl (HO3.out.alloc _) ⟨w3.heap.size, 0, none⟩ 1 1 [.int .i64 p, .int .i64 q] rfl rfl ?c1 ?c2 ?c3 ?c4 ?c5 ?_)
        case c1 =>
          intro j u hj
          match j, hj with
          | 0, hj => simp at hj; subst hj; simp [Addr.add]
          | 1, hj => simp at hj; subst hj; simp [Addr.add]
        case c2 => intro u hu; simp at hu; rcases hu with rfl | rfl <;> rfl
        case c3 => unfold maxLen; omega
        case c4 => omega
        case c5 => have := HB3.out.size; simp; omega
        intro v' w4 hown' hgrow _
        have HB4 := hid ((HB3.out.alloc HB3.out.size _).grown hgrow (by have := HB3.out.size; simp; omega) (fun q hq => (World.ownsRow.lt HO3.out q hq).1))
        have HO4 := hid hown'
        clear hown' hgrow
        go_wp2
        go_roundw
        case rel => exact ⟨i + 1, by omega, by omega, by go_num, by
          have h := HO4.out
          rw [← pairCells_snoc _ (p, q), ← HWS.out, show i - 1 + 1 = i from by omega] at h
          rw [Nat.add_sub_cancel]
          exact h, HB4.out⟩
        case measure => simp [intOf]; omega
      · obtain ⟨c0, c1⟩ := cells2 (x := .int .i64 p) (y := .int .i64 q) g0 g1
        have hbw : Below wr.heap.size wr ((w2.setCell ⟨wr.heap.size, 0, none⟩ (.int .i64 p)).setCell ⟨wr.heap.size, 1, none⟩ (.int .i64 q)) := (hb2.out.setCell (p := ⟨wr.heap.size, 0, none⟩) (Nat.le_refl _) _).setCell (p := ⟨wr.heap.size, 1, none⟩) (Nat.le_refl _) _
        clear g0 g1 g2 g3
        generalize (w2.setCell ⟨wr.heap.size, 0, none⟩ (.int .i64 p)).setCell ⟨wr.heap.size, 1, none⟩ (.int .i64 q) = w3 at c0 c1 hbw ⊢
        have HO3 := hid (ownsRow_stays HO.out hbw)
        have HB3 := hid (HBR.out.trans (hbw.mono HBR.out.size))
        clear hbw q0 HWY hd HCL HO HBR hb2 hb3
        go_wp2_with (at_builtin; refine wpList_append_own _ rfl _ _ 24 rfl w.heap.size 58 i0 (.agg #[.int .i64 0, .int .i64 0]) 2 16 Try.underlying24 hi hz0 hz1 hz2 rfl (by decide) _ _ _ rfl (HO3.out.alloc _) ⟨w3.heap.size, 0, none⟩ 1 1 [.int .i64 p, .int .i64 q] rfl rfl ?c1 ?c2 ?c3 ?c4 ?c5 ?_)
        case c1 =>
          intro j u hj
          match j, hj with
          | 0, hj => simp at hj; subst hj; simp [Addr.add]
          | 1, hj => simp at hj; subst hj; simp [Addr.add]
        case c2 => intro u hu; simp at hu; rcases hu with rfl | rfl <;> rfl
        case c3 => unfold maxLen; omega
        case c4 => omega
        case c5 => have := HB3.out.size; simp; omega
        intro v' w4 hown' hgrow _
        have HB4 := hid ((HB3.out.alloc HB3.out.size _).grown hgrow (by have := HB3.out.size; simp; omega) (fun q hq => (World.ownsRow.lt HO3.out q hq).1))
        have HO4 := hid hown'
        clear hown' hgrow
        go_wp2
        go_roundw
        case rel => exact ⟨i + 1, by omega, by omega, by go_num, by
          have h := HO4.out
          rw [← pairCells_snoc _ (p, q), ← HWS.out, show i - 1 + 1 = i from by omega] at h
          rw [Nat.add_sub_cancel]
          exact h, HB4.out⟩
        case measure => simp [intOf]; omega
    · have hie : i = l.length := by omega
      subst hie
      obtain ⟨r, cr, rfl, hr⟩ := RdP.of_row HO.out
      have HR := hid hr
      clear hr HO hb
      go_wp2
      go_ret
      exact ⟨r, cr, rfl, HR.out, HBR.out⟩
end Go.Proofs.Ytffcnjcglfkbnaa
