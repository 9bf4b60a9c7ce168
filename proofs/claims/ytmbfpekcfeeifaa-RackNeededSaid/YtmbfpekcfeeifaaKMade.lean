/- The walk of (Shelf).made: a rack by numbers. -/
import Derived.Test.YtmbfpekcfeeifaaKGiven
import Derived.Test.YtmbfpekcfeeifaaKNdd
import Derived.Deep.RegionHeld3
import Derived.Deep.Cut
namespace Go.Proofs.Ytmbfpekcfeeifaa
open Go.RowKit

/-- Three numbers of a byte each, one behind the other. -/
def RdT (w : World) (a : Option Addr) (T : List (Nat × Nat × Nat)) : Prop :=
  ∀ k (h : k < T.length), ∃ b off, a = some ⟨b, off, none⟩ ∧ w.cell? ⟨b, off + k * 3, none⟩ = some (.int .u8 (T[k].1 : Nat)) ∧ w.cell? ⟨b, off + k * 3 + 1, none⟩ = some (.int .u8 (T[k].2.1 : Nat)) ∧ w.cell? ⟨b, off + k * 3 + 2, none⟩ = some (.int .u8 (T[k].2.2 : Nat))
theorem RdT.stays {w w' : World} {a : Option Addr} {T : List (Nat × Nat × Nat)} (h : RdT w a T) (hb : Below w.heap.size w w') : RdT w' a T := fun k hk => by
  obtain ⟨b, off, e, q1, q2, q3⟩ := h k hk
  exact ⟨b, off, e, cell_stays hb (Nat.le_refl _) q1, cell_stays hb (Nat.le_refl _) q2, cell_stays hb (Nat.le_refl _) q3⟩
/-- A brace by numbers; the braces of a shelf. -/
def K.mbr (cb : Bool) (m n : Nat) (t : Nat × Nat × Nat) : Br := (((t.1 % m : Nat) : Int), ((t.2.1 % n : Nat) : Int), if cb then ((t.2.2 % 3 : Nat) : Int) else 0)
def K.mbs (cb : Bool) (m n : Nat) (T : List (Nat × Nat × Nat)) : List Br := (T.take 9).map (K.mbr cb m n)
def K.mbk (cb : Bool) (m n : Nat) (T : List (Nat × Nat × Nat)) (k : Nat) : List Br := (T.take k).map (K.mbr cb m n)
theorem K.mbk_succ {cb : Bool} {m n : Nat} {T : List (Nat × Nat × Nat)} {k : Nat} (h : k < T.length) : K.mbk cb m n T (k + 1) = K.mbk cb m n T k ++ [K.mbr cb m n T[k]] := by
  unfold K.mbk
  rw [List.take_succ_eq_append_getElem h, List.map_append]; rfl
theorem K.mbk_len {cb : Bool} {m n : Nat} {T : List (Nat × Nat × Nat)} {k : Nat} (h : k ≤ T.length) : (K.mbk cb m n T k).length = k := by
  unfold K.mbk; rw [List.length_map, List.length_take]; omega
/-- The cells of a shelf. -/
def K.shv (r c : Nat) (a : Option Addr) (len cap : Nat) : Value := .agg #[.int .u8 (r : Int), .int .u8 (c : Int), .slice a len cap]

theorem RowB.rdc {w : World} {lo : Nat} {v : Value} {bs : List Br} (h : RowB w lo v bs) : ∃ a cap, v = .slice a bs.length cap ∧ bs.length ≤ cap ∧ cap ≤ maxLen ∧ RdB w a bs := by
  obtain ⟨a, cap, e, hr⟩ := h.rd
  rcases h.2 with ⟨h1, h2⟩ | ⟨g, cap', cur, h1, _, _, h3, h4, _⟩
  · subst e
    simp only [Value.slice.injEq] at h1
    exact ⟨a, cap, rfl, by omega, by unfold maxLen; omega, hr⟩
  · subst e
    simp only [Value.slice.injEq] at h1
    obtain ⟨_, _, rfl⟩ := h1
    exact ⟨a, cap, rfl, h3, h4, hr⟩
theorem K.RV.off {w0 w : World} {gv : Nat} {m n : Int} {bv : Value} {bs : List Br} (h : K.RV w0 w gv m n bv bs) {q : Nat} (h1 : q ≠ gv) (h2 : ∀ k, bv.ownBlock = some k → k ≠ q) (h3 : w0.heap.size ≤ q) (o : Nat) (u : Value) : K.RV w0 (w.setCell ⟨q, o, none⟩ u) gv m n bv bs :=
  ⟨row_grown h.var (grown_set _ _ _) (fun e => h1 (Option.some.inj e)), World.ownsRow.kept h.row (grown_set _ _ _) (by
    cases hq : bv.ownBlock with
    | none => exact .inl rfl
    | some k => exact .inr fun e => h2 k hq (Option.some.inj e)), h.below.setCell h3 _, h.o⟩
set_option maxHeartbeats 8000000 in
set_option maxRecDepth 100000 in
theorem made_any (cb : Bool) (r0 c0 : Nat) (a : Option Addr) (cap : Nat) (T : List (Nat × Nat × Nat)) (w : World) (hr : r0 < 256) (hc : c0 < 256) (hm : T.length ≤ maxLen) (hR : RdT w a T) (h8 : ∀ t ∈ T, t.1 < 256 ∧ t.2.1 < 256 ∧ t.2.2 < 256) :
    Calls Try.prog 41 #[K.shv r0 c0 a T.length cap, .bool cb] w (K.Gvn ((r0 % 3 + 1 : Nat) : Int) ((c0 % 3 + 1 : Nat) : Int) (K.mbs cb (r0 % 3 + 1) (c0 % 3 + 1) T) w) := by
  have hb1 : Below w.heap.size w (w.alloc (.cells #[.int .u8 (r0 : Int), .int .u8 (c0 : Int), .slice a T.length cap] 72)) := (Below.refl _ _).alloc (Nat.le_refl _) _
  have hs1 : (w.alloc (.cells #[.int .u8 (r0 : Int), .int .u8 (c0 : Int), .slice a T.length cap] 72)).heap.size = w.heap.size + 1 := by simp
  have hb2 := hb1.alloc (o := .cells #[.int .i64 0, .int .i64 0, .slice none 0 0] 24) (by rw [hs1]; exact Nat.le_succ _)
  obtain ⟨i0, hi, hz0, hz1, hz2⟩ := info_parts (show (Try.prog.info? 63).map (fun i => (i.zero, i.size, i.bytes)) = some (some (.agg #[.int .i64 0, .int .i64 0, .int .i64 0]), 3, 24) by kernel_rfl)
  have hx0 : ((w.alloc (.cells #[.int .u8 (r0 : Int), .int .u8 (c0 : Int), .slice a T.length cap] 72)).alloc (.cells #[.int .i64 0, .int .i64 0, .slice none 0 0] 24)).cell? ⟨w.heap.size, 2, none⟩ = some (.slice a T.length cap) := by
    rw [World.cell?_of_block (Below.heap_alloc _ _ _ (by rw [hs1]; exact Nat.lt_succ_self _)), World.cell?_alloc_at _ _ _ _ rfl]; rfl
  have HX2 := hid hx0
  have HRES := hid (World.rowIs_alloc (w.alloc (.cells #[.int .u8 (r0 : Int), .int .u8 (c0 : Int), .slice a T.length cap] 72)) #[.int .i64 0, .int .i64 0, .slice none 0 0] 24 (K.rkF 0 0 (.slice none 0 0)) (fun i hi => by
    have h : i < 3 := hi
    have h2 : i = 0 ∨ i = 1 ∨ i = 2 := by omega
    rcases h2 with rfl | rfl | rfl <;> rfl))
  rw [hs1] at HRES
  have HS2 : Hid (((w.alloc (.cells #[.int .u8 (r0 : Int), .int .u8 (c0 : Int), .slice a T.length cap] 72)).alloc (.cells #[.int .i64 0, .int .i64 0, .slice none 0 0] 24)).heap.size = w.heap.size + 1 + 1) := hid (by simp)
  have HB2 := hid hb2
  have HT := hid ((hR.stays hb1).stays ((Below.refl _ _).alloc (Nat.le_refl _) (.cells #[.int .i64 0, .int .i64 0, .slice none 0 0] 24)))
  have H8 := hid h8
  have w1 : IntKind.i64.wrap (r0 : Int) = (r0 : Int) := IntWalk.i64_in _ (by omega)
  have w2 : IntKind.i64.wrap (c0 : Int) = (c0 : Int) := IntWalk.i64_in _ (by omega)
  have t1 : (r0 : Int).tmod 3 = ((r0 % 3 : Nat) : Int) := by rw [Int.tmod_eq_emod_of_nonneg (by omega)]; simp
  have t2 : (c0 : Int).tmod 3 = ((c0 % 3 : Nat) : Int) := by rw [Int.tmod_eq_emod_of_nonneg (by omega)]; simp
  have hm3 : r0 % 3 < 3 := Nat.mod_lt _ (by decide)
  have hn3 : c0 % 3 < 3 := Nat.mod_lt _ (by decide)
  have w3 : IntKind.i64.wrap (1 + ((r0 % 3 : Nat) : Int)) = ((r0 % 3 + 1 : Nat) : Int) := by rw [IntWalk.i64_in _ (by omega)]; omega
  have w4 : IntKind.i64.wrap (1 + ((c0 % 3 : Nat) : Int)) = ((c0 % 3 + 1 : Nat) : Int) := by rw [IntWalk.i64_in _ (by omega)]; omega
  clear hb1 hb2 hs1 hx0 hR h8
  unfold K.shv
  unfold maxLen at hm
  go_enter Try.func41, Try.ntmps41
  go_wp2
  have e1 : (1 : Int) + (r0 : Int) % 3 = ((r0 % 3 + 1 : Nat) : Int) := by omega
  have e2 : (1 : Int) + (c0 : Int) % 3 = ((c0 % 3 + 1 : Nat) : Int) := by omega
  rw [e1, e2]
  have hm4 : 1 ≤ r0 % 3 + 1 ∧ r0 % 3 + 1 ≤ 3 := by omega
  have hn4 : 1 ≤ c0 % 3 + 1 ∧ c0 % 3 + 1 ≤ 3 := by omega
  clear w3 w4 t1 t2 w1 w2 hm3 hn3 e1 e2
  generalize r0 % 3 + 1 = m at *
  generalize c0 % 3 + 1 = n at *
  generalize (w.alloc (.cells #[.int .u8 (r0 : Int), .int .u8 (c0 : Int), .slice a T.length cap] 72)).alloc (.cells #[.int .i64 0, .int .i64 0, .slice none 0 0] 24) = W2 at *
  have HRV := hid (K.RV.start (w0 := W2) (m := (m : Int)) (n := (n : Int)) (Below.refl _ W2))
  rw [← HS2.out]
  have HSW : Hid (w.heap.size < W2.heap.size) := hid (by rw [HS2.out]; omega)
  generalize W2.alloc (.cells #[.int .i64 (m : Int), .int .i64 (n : Int), .slice none 0 0] 24) = w3 at *
  have HBS : Hid (K.mbs cb m n T = K.mbk cb m n T (min 9 T.length)) := hid (by
    unfold K.mbs K.mbk
    rcases Nat.le_total 9 T.length with h | h
    · rw [Nat.min_eq_left h]
    · rw [Nat.min_eq_right h, List.take_of_length_le (Nat.le_refl _), List.take_of_length_le h])
  go_loopw [6] (fun s wr => ∃ k : Nat, k ≤ min 9 T.length ∧ s = .int .i64 k ∧ ∃ bv, K.RV W2 wr W2.heap.size m n bv (K.mbk cb m n T k)) (fun s _ => min 9 T.length - (intOf s).toNat)
  case atStart => exact ⟨0, Nat.zero_le _, rfl, _, HRV.out⟩
  case round =>
    clear HRV
    obtain ⟨k, hk, rfl, bv, hrv⟩ := hrel
    have HRV := hid hrv
    have hk9 : k ≤ 9 := Nat.le_trans hk (Nat.min_le_left _ _)
    have hkT : k ≤ T.length := Nat.le_trans hk (Nat.min_le_right _ _)
    have x2 := cell_stays hrv.below (Nat.le_refl _) HX2.out
    have v0 := HRV.out.c0
    have v1 := HRV.out.c1
    have v2 := HRV.out.c2
    have hszr : W2.heap.size < wr.heap.size := HRV.out.var.lt
    have hszw : w.heap.size < wr.heap.size := Nat.lt_trans HSW.out hszr
    have HTR := hid (HT.out.stays hrv.below)
    clear hrv hk
    by_cases hlt : k < T.length
    · by_cases h9 : k < 9
      · obtain ⟨b, off, rfl, c1, c2, c3⟩ := HTR.out k hlt
        have hB := H8.out _ (List.getElem_mem hlt)
        have HMS := hid (K.mbk_succ (cb := cb) (m := m) (n := n) hlt)
        have HML := hid (K.mbk_len (cb := cb) (m := m) (n := n) hkT)
        generalize T[k] = t at *
        obtain ⟨x, y, z⟩ := t
        obtain ⟨hx, hy, hz⟩ := hB
        simp only at c1 c2 c3 hx hy hz
        have hix : (0 : Int) ≤ (k : Int) ∧ (k : Int) < (T.length : Int) := by omega
        have wx : IntKind.i64.wrap (x : Int) = (x : Int) := IntWalk.i64_in _ (by omega)
        have wy : IntKind.i64.wrap (y : Int) = (y : Int) := IntWalk.i64_in _ (by omega)
        have wz : IntKind.i64.wrap (z : Int) = (z : Int) := IntWalk.i64_in _ (by omega)
        have m0 : ¬ (m : Int) = 0 := by omega
        have n0 : ¬ (n : Int) = 0 := by omega
        have m00 : ¬ m = 0 := by omega
        have n00 : ¬ n = 0 := by omega
        have tx : (x : Int).tmod (m : Int) = ((x % m : Nat) : Int) := by rw [Int.tmod_eq_emod_of_nonneg (by omega)]; simp
        have ty : (y : Int).tmod (n : Int) = ((y % n : Nat) : Int) := by rw [Int.tmod_eq_emod_of_nonneg (by omega)]; simp
        have tz : (z : Int).tmod 3 = ((z % 3 : Nat) : Int) := by rw [Int.tmod_eq_emod_of_nonneg (by omega)]; simp
        have lx : x % m < m := Nat.mod_lt _ (by omega)
        have ly : y % n < n := Nat.mod_lt _ (by omega)
        have lz : z % 3 < 3 := Nat.mod_lt _ (by omega)
        have HMB : Hid (K.mbr cb m n (x, y, z) = (((x % m : Nat) : Int), ((y % n : Nat) : Int), if cb then ((z % 3 : Nat) : Int) else 0)) := hid rfl
        have wwx : IntKind.i64.wrap ((x % m : Nat) : Int) = ((x % m : Nat) : Int) := IntWalk.i64_in _ (by omega)
        have wwy : IntKind.i64.wrap ((y % n : Nat) : Int) = ((y % n : Nat) : Int) := IntWalk.i64_in _ (by omega)
        generalize x % m = X at *
        generalize y % n = Y at *
        have HG5 : Hid (W2.heap.size < wr.heap.size) := hid hszr
        cases cb with
        | false =>
          go_wp2
          have HCS := hid (fun W (h : Below wr.heap.size wr W) => show W.cell? ⟨w.heap.size, 2, none⟩ = some (.slice (some ⟨b, off, none⟩) T.length cap) ∧ W.cell? ⟨b, off + k * 3, none⟩ = some (.int .u8 (x : Int)) ∧ W.cell? ⟨b, off + k * 3 + 1, none⟩ = some (.int .u8 (y : Int)) ∧ W.cell? ⟨W2.heap.size, 0, none⟩ = some (.int .i64 (m : Int)) ∧ W.cell? ⟨W2.heap.size, 1, none⟩ = some (.int .i64 (n : Int)) from
            ⟨cell_stays h (Nat.le_refl _) x2, cell_stays h (Nat.le_refl _) c1, cell_stays h (Nat.le_refl _) c2, cell_stays h (Nat.le_refl _) v0, cell_stays h (Nat.le_refl _) v1⟩)
          have hd : Hid (Below wr.heap.size wr wr.drew) := hid (Below.refl _ _).drew
          obtain ⟨n1, n2, n3, n4, n5⟩ := HCS.out _ hd.out
          go_region_held3 (fun W => W.cell? ⟨w.heap.size, 2, none⟩ = some (.slice (some ⟨b, off, none⟩) T.length cap) ∧ W.cell? ⟨b, off + k * 3, none⟩ = some (.int .u8 (x : Int)) ∧ W.cell? ⟨b, off + k * 3 + 1, none⟩ = some (.int .u8 (y : Int)) ∧ W.cell? ⟨W2.heap.size, 0, none⟩ = some (.int .i64 (m : Int)) ∧ W.cell? ⟨W2.heap.size, 1, none⟩ = some (.int .i64 (n : Int))) (first | exact HCS.out _ (Hid.out (by assumption)) | exact HCS.out _ (hd.out.alloc hd.out.size _) | go_keep) (fail)
          have HBA : Hid (Below wr.heap.size wr (wr.alloc (.cells #[.int .i64 (X : Int), .int .i64 (Y : Int), .int .i64 0] 63)).drew) := hid (((Below.refl _ _).alloc (Nat.le_refl _) _).drew)
          have HRW5 : Hid ((wr.alloc (.cells #[.int .i64 (X : Int), .int .i64 (Y : Int), .int .i64 0] 63)).drew.rowIs wr.heap.size 63 3 (K.rkF X Y (.int .i64 0))) := hid ((World.rowIs_alloc wr #[.int .i64 (X : Int), .int .i64 (Y : Int), .int .i64 0] 63 (K.rkF X Y (.int .i64 0)) (fun i hi => by
            have h : i < 3 := hi
            have h2 : i = 0 ∨ i = 1 ∨ i = 2 := by omega
            rcases h2 with rfl | rfl | rfl <;> rfl)).of_block rfl)
          have HRV5 := hid (HRV.out.grown HBA.out)
          have HROW : Hid (∀ q, bv.ownBlock = some q → q ≠ wr.heap.size) := hid (fun q hq => by have := (World.ownsRow.lt HRV.out.row q hq).2; omega)
          have x5 := cell_stays HBA.out (Nat.le_refl _) x2
          have c5 := cell_stays HBA.out (Nat.le_refl _) c3
          have HNE : Hid (wr.heap.size ≠ W2.heap.size ∧ W2.heap.size ≤ wr.heap.size) := hid (by omega)
          clear n1 n2 n3 n4 n5 HCS hd HRV x2 c1 c2 c3 v0 v1 v2 HBA HTR hszr hszw HG5
          generalize (wr.alloc (.cells #[.int .i64 (X : Int), .int .i64 (Y : Int), .int .i64 0] 63)).drew = w5 at *
          generalize wr.heap.size = gB at *
          clear wr
          have HRV6 := hid HRV5.out
          have HRW6 := hid HRW5.out
          clear HRV5 HRW5
          generalize hw6 : w5 = w6 at *
          clear hw6
          have HMN : Hid (K.mbk false m n T (k + 1) = K.mbk false m n T k ++ [((X : Int), (Y : Int), 0)]) := hid (by rw [HMS.out, HMB.out]; rfl)
          have HB7 : Hid (Below w6.heap.size w6 (w6.alloc (.cells #[.int .i64 (X : Int), .int .i64 (Y : Int), .int .i64 0] 63))) := hid ((Below.refl _ _).alloc (Nat.le_refl _) _)
          have HRV7 := hid (HRV6.out.grown HB7.out)
          have HLK := hid (HML.out)
          have HC1 : Hid (∀ (j : Nat) (u : Value), [Value.int .i64 (X : Int), Value.int .i64 (Y : Int), Value.int .i64 0][j]? = some u → (w6.alloc (.cells #[.int .i64 (X : Int), .int .i64 (Y : Int), .int .i64 0] 63)).cell? ((⟨w6.heap.size, 0, none⟩ : Addr).add j) = some u) := hid (by
            intro j u hj
            match j, hj with
            | 0, hj => simp at hj; subst hj; rw [Addr.add_lit, World.cell?_alloc_at _ _ _ _ (by simp)]; rfl
            | 1, hj => simp at hj; subst hj; rw [Addr.add_lit, World.cell?_alloc_at _ _ _ _ (by simp)]; rfl
            | 2, hj => simp at hj; subst hj; rw [Addr.add_lit, World.cell?_alloc_at _ _ _ _ (by simp)]; rfl)
          have v5 := HRV6.out.c2
          have hg6 : W2.heap.size < w6.heap.size := HRV6.out.var.lt
          have b0 : w6.cell? ⟨gB, 0, none⟩ = some (.int .i64 (X : Int)) := HRW6.out.cell (i := 0) (by omega)
          have b1 : w6.cell? ⟨gB, 1, none⟩ = some (.int .i64 (Y : Int)) := HRW6.out.cell (i := 1) (by omega)
          have b2 : w6.cell? ⟨gB, 2, none⟩ = some (.int .i64 0) := HRW6.out.cell (i := 2) (by omega)
          have HRV6L : Hid (W2.heap.size + 1 ≤ (w6.alloc (.cells #[.int .i64 (X : Int), .int .i64 (Y : Int), .int .i64 0] 63)).heap.size) := hid (by simp; omega)
          go_wp2_with (at_builtin; refine wpList_append_own _ rfl _ _ 22 rfl (W2.heap.size + 1) 63 i0 (.agg #[.int .i64 0, .int .i64 0, .int .i64 0]) 3 24 Try.underlying22 hi hz0 hz1 hz2 rfl (by decide) _ _ _ rfl HRV7.out.row ⟨w6.heap.size, 0, none⟩ 1 1 [.int .i64 (X : Int), .int .i64 (Y : Int), .int .i64 0] rfl rfl HC1.out ?c2 ?c3 ?c4 HRV6L.out ?_)
          case c2 => intro u hu; simp at hu; rcases hu with rfl | rfl | rfl <;> rfl
          case c3 => have := HLK.out; unfold maxLen; omega
          case c4 => have := HLK.out; omega
          intro v' w8 hown hgrow _
          obtain ⟨g', cap', rfl, k1, k2, k3, HI9⟩ := HRV7.out.push HMN.out hown hgrow
          clear hown hgrow HRV7 HRV6 v5 b0 b1 b2
          go_wp2
          go_roundw
          case rel => exact ⟨k + 1, by omega, by go_num, _, HI9.out⟩
          case measure => simp [intOf]; omega
        | true =>
          go_wp2
          have HCS := hid (fun W (h : Below wr.heap.size wr W) => show W.cell? ⟨w.heap.size, 2, none⟩ = some (.slice (some ⟨b, off, none⟩) T.length cap) ∧ W.cell? ⟨b, off + k * 3, none⟩ = some (.int .u8 (x : Int)) ∧ W.cell? ⟨b, off + k * 3 + 1, none⟩ = some (.int .u8 (y : Int)) ∧ W.cell? ⟨W2.heap.size, 0, none⟩ = some (.int .i64 (m : Int)) ∧ W.cell? ⟨W2.heap.size, 1, none⟩ = some (.int .i64 (n : Int)) from
            ⟨cell_stays h (Nat.le_refl _) x2, cell_stays h (Nat.le_refl _) c1, cell_stays h (Nat.le_refl _) c2, cell_stays h (Nat.le_refl _) v0, cell_stays h (Nat.le_refl _) v1⟩)
          have hd : Hid (Below wr.heap.size wr wr.drew) := hid (Below.refl _ _).drew
          obtain ⟨n1, n2, n3, n4, n5⟩ := HCS.out _ hd.out
          go_region_held3 (fun W => W.cell? ⟨w.heap.size, 2, none⟩ = some (.slice (some ⟨b, off, none⟩) T.length cap) ∧ W.cell? ⟨b, off + k * 3, none⟩ = some (.int .u8 (x : Int)) ∧ W.cell? ⟨b, off + k * 3 + 1, none⟩ = some (.int .u8 (y : Int)) ∧ W.cell? ⟨W2.heap.size, 0, none⟩ = some (.int .i64 (m : Int)) ∧ W.cell? ⟨W2.heap.size, 1, none⟩ = some (.int .i64 (n : Int))) (first | exact HCS.out _ (Hid.out (by assumption)) | exact HCS.out _ (hd.out.alloc hd.out.size _) | go_keep) (fail)
          have HBA : Hid (Below wr.heap.size wr (wr.alloc (.cells #[.int .i64 (X : Int), .int .i64 (Y : Int), .int .i64 0] 63)).drew) := hid (((Below.refl _ _).alloc (Nat.le_refl _) _).drew)
          have HRW5 : Hid ((wr.alloc (.cells #[.int .i64 (X : Int), .int .i64 (Y : Int), .int .i64 0] 63)).drew.rowIs wr.heap.size 63 3 (K.rkF X Y (.int .i64 0))) := hid ((World.rowIs_alloc wr #[.int .i64 (X : Int), .int .i64 (Y : Int), .int .i64 0] 63 (K.rkF X Y (.int .i64 0)) (fun i hi => by
            have h : i < 3 := hi
            have h2 : i = 0 ∨ i = 1 ∨ i = 2 := by omega
            rcases h2 with rfl | rfl | rfl <;> rfl)).of_block rfl)
          have HRV5 := hid (HRV.out.grown HBA.out)
          have HROW : Hid (∀ q, bv.ownBlock = some q → q ≠ wr.heap.size) := hid (fun q hq => by have := (World.ownsRow.lt HRV.out.row q hq).2; omega)
          have x5 := cell_stays HBA.out (Nat.le_refl _) x2
          have c5 := cell_stays HBA.out (Nat.le_refl _) c3
          have HNE : Hid (wr.heap.size ≠ W2.heap.size ∧ W2.heap.size ≤ wr.heap.size) := hid (by omega)
          clear n1 n2 n3 n4 n5 HCS hd HRV x2 c1 c2 c3 v0 v1 v2 HBA HTR hszr hszw HG5
          generalize (wr.alloc (.cells #[.int .i64 (X : Int), .int .i64 (Y : Int), .int .i64 0] 63)).drew = w5 at *
          generalize wr.heap.size = gB at *
          clear wr
          have wz3 : IntKind.i64.wrap ((z % 3 : Nat) : Int) = ((z % 3 : Nat) : Int) := IntWalk.i64_in _ (by omega)
          have ez3 : (z : Int) % 3 = ((z % 3 : Nat) : Int) := by omega
          generalize z % 3 = KD at *
          have b2 : w5.cell? ⟨gB, 2, none⟩ = some (.int .i64 0) := HRW5.out.cell (i := 2) (by omega)
          have f2 := HRW5.out.frozen 2
          have HRV6 := hid (HRV5.out.off HNE.out.1 HROW.out HNE.out.2 2 (.int .i64 (KD : Int)))
          have HRW6 : Hid ((w5.setCell ⟨gB, 2, none⟩ (.int .i64 (KD : Int))).rowIs gB 63 3 (K.rkF X Y (.int .i64 (KD : Int)))) := hid ((HRW5.out.set 2 (.int .i64 (KD : Int))).congr fun i hi => by
            have h4 : i = 0 ∨ i = 1 ∨ i = 2 := by omega
            unfold K.rkF
            rcases h4 with rfl | rfl | rfl <;> simp)
          go_upto_region 8 with (fail)
          try rw [ez3]
          clear b2 f2 HRV5 HRW5 x5 c5
          generalize w5.setCell ⟨gB, 2, none⟩ (.int .i64 (KD : Int)) = w6 at *
          have HMN : Hid (K.mbk true m n T (k + 1) = K.mbk true m n T k ++ [((X : Int), (Y : Int), (KD : Int))]) := hid (by rw [HMS.out, HMB.out]; rfl)
          have HB7 : Hid (Below w6.heap.size w6 (w6.alloc (.cells #[.int .i64 (X : Int), .int .i64 (Y : Int), .int .i64 (KD : Int)] 63))) := hid ((Below.refl _ _).alloc (Nat.le_refl _) _)
          have HRV7 := hid (HRV6.out.grown HB7.out)
          have HLK := hid (HML.out)
          have HC1 : Hid (∀ (j : Nat) (u : Value), [Value.int .i64 (X : Int), Value.int .i64 (Y : Int), Value.int .i64 (KD : Int)][j]? = some u → (w6.alloc (.cells #[.int .i64 (X : Int), .int .i64 (Y : Int), .int .i64 (KD : Int)] 63)).cell? ((⟨w6.heap.size, 0, none⟩ : Addr).add j) = some u) := hid (by
            intro j u hj
            match j, hj with
            | 0, hj => simp at hj; subst hj; rw [Addr.add_lit, World.cell?_alloc_at _ _ _ _ (by simp)]; rfl
            | 1, hj => simp at hj; subst hj; rw [Addr.add_lit, World.cell?_alloc_at _ _ _ _ (by simp)]; rfl
            | 2, hj => simp at hj; subst hj; rw [Addr.add_lit, World.cell?_alloc_at _ _ _ _ (by simp)]; rfl)
          have v5 := HRV6.out.c2
          have hg6 : W2.heap.size < w6.heap.size := HRV6.out.var.lt
          have b0 : w6.cell? ⟨gB, 0, none⟩ = some (.int .i64 (X : Int)) := HRW6.out.cell (i := 0) (by omega)
          have b1 : w6.cell? ⟨gB, 1, none⟩ = some (.int .i64 (Y : Int)) := HRW6.out.cell (i := 1) (by omega)
          have b2 : w6.cell? ⟨gB, 2, none⟩ = some (.int .i64 (KD : Int)) := HRW6.out.cell (i := 2) (by omega)
          have HRV6L : Hid (W2.heap.size + 1 ≤ (w6.alloc (.cells #[.int .i64 (X : Int), .int .i64 (Y : Int), .int .i64 (KD : Int)] 63)).heap.size) := hid (by simp; omega)
          go_wp2_with (at_builtin; refine wpList_append_own _ rfl _ _ 22 rfl (W2.heap.size + 1) 63 i0 (.agg #[.int .i64 0, .int .i64 0, .int .i64 0]) 3 24 Try.underlying22 hi hz0 hz1 hz2 rfl (by decide) _ _ _ rfl HRV7.out.row ⟨w6.heap.size, 0, none⟩ 1 1 [.int .i64 (X : Int), .int .i64 (Y : Int), .int .i64 (KD : Int)] rfl rfl HC1.out ?d2 ?d3 ?d4 HRV6L.out ?_)
          case d2 => intro u hu; simp at hu; rcases hu with rfl | rfl | rfl <;> rfl
          case d3 => have := HLK.out; unfold maxLen; omega
          case d4 => have := HLK.out; omega
          intro v' w8 hown hgrow _
          obtain ⟨g', cap', rfl, k1, k2, k3, HI9⟩ := HRV7.out.push HMN.out hown hgrow
          clear hown hgrow HRV7 HRV6 v5 b0 b1 b2
          go_wp2
          go_roundw
          case rel => exact ⟨k + 1, by omega, by go_num, _, HI9.out⟩
          case measure => simp [intOf]; omega
      · have hke : k = min 9 T.length := by omega
        have h9' : ¬ ((k : Int) < 9) := by omega
        rw [hke] at HRV
        have hkk : k = 9 := by omega
        rw [← HBS.out] at HRV
        obtain ⟨av, cv, rfl, hrd⟩ := HRV.out.row.rd
        have g1 : W2.heap.size < wr.heap.size := HRV.out.var.lt
        have hrs := HRES.out.of_block (HRV.out.below.block _ HRES.out.lt)
        have r0 := hrs.cell (i := 0) (by simp)
        have r1 := hrs.cell (i := 1) (by simp)
        have r2 := hrs.cell (i := 2) (by simp)
        have q0 := hrs.frozen 0
        have q1 := hrs.frozen 1
        have q2 := hrs.frozen 2
        generalize K.mbs cb m n T = bs at *
        have HRW := hid (rkF_put (m := (m : Int)) (n := (n : Int)) (v := .slice av bs.length cv) hrs)
        have HBE := hid (((HB2.out.trans (HRV.out.below.mono HB2.out.size)).setCell (p := ⟨w.heap.size + 1, 0, none⟩) (Nat.le_succ _) (.int .i64 (m : Int))).setCell (p := ⟨w.heap.size + 1, 1, none⟩) (Nat.le_succ _) (.int .i64 (n : Int)) |>.setCell (p := ⟨w.heap.size + 1, 2, none⟩) (Nat.le_succ _) (.slice av bs.length cv))
        have low : ∀ q, (Value.slice av bs.length cv).ownBlock = some q → w.heap.size + 1 < q := fun q hq => by have := HRV.out.row.lt hq; have := HS2.out; omega
        have ne : ∀ {e : Option Nat}, e = some (w.heap.size + 1) → (Value.slice av bs.length cv).ownBlock = none ∨ (Value.slice av bs.length cv).ownBlock ≠ e := fun {e} he => by
          cases hq : (Value.slice av bs.length cv).ownBlock with
          | none => exact .inl rfl
          | some q => exact .inr fun h => by rw [he] at h; have := low q hq; have := Option.some.inj h; omega
        have HRB : Hid (RowB (((wr.setCell ⟨w.heap.size + 1, 0, none⟩ (.int .i64 (m : Int))).setCell ⟨w.heap.size + 1, 1, none⟩ (.int .i64 (n : Int))).setCell ⟨w.heap.size + 1, 2, none⟩ (.slice av bs.length cv)) (W2.heap.size + 1) (.slice av bs.length cv) bs) := hid (World.ownsRow.kept (World.ownsRow.kept (World.ownsRow.kept HRV.out.row (grown_set _ _ _) (ne rfl)) (grown_set _ _ _) (ne rfl)) (grown_set _ _ _) (ne rfl))
        have hnp : W2.heap.size ≠ w.heap.size + 1 := by have := HS2.out; omega
        have hpn : w.heap.size + 1 ≠ W2.heap.size := fun e => hnp e.symm
        clear hrs hrd low ne
        go_wp2
        generalize ((wr.setCell ⟨w.heap.size + 1, 0, none⟩ (.int .i64 (m : Int))).setCell ⟨w.heap.size + 1, 1, none⟩ (.int .i64 (n : Int))).setCell ⟨w.heap.size + 1, 2, none⟩ (.slice av bs.length cv) = w9 at *
        obtain ⟨a9, c9, e9, h91, h92, h9⟩ := HRB.out.rdc
        cases e9
        exact bodyPost_ret (results_cell_row rfl _ _ (w.heap.size + 1) 24 _ (0, 0) _ rfl (row3 HRW.out) Try.underlying24 rfl (show (Try.prog.info? 24).map (·.size) = some 3 by kernel_rfl)) rfl ⟨_, _, rfl, h91, h92, h9, HBE.out⟩
    · have hke : k = min 9 T.length := by omega
      rw [hke] at HRV
      rw [← HBS.out] at HRV
      obtain ⟨av, cv, rfl, hrd⟩ := HRV.out.row.rd
      have g1 : W2.heap.size < wr.heap.size := HRV.out.var.lt
      have hrs := HRES.out.of_block (HRV.out.below.block _ HRES.out.lt)
      have r0 := hrs.cell (i := 0) (by simp)
      have r1 := hrs.cell (i := 1) (by simp)
      have r2 := hrs.cell (i := 2) (by simp)
      have q0 := hrs.frozen 0
      have q1 := hrs.frozen 1
      have q2 := hrs.frozen 2
      generalize K.mbs cb m n T = bs at *
      have HRW := hid (rkF_put (m := (m : Int)) (n := (n : Int)) (v := .slice av bs.length cv) hrs)
      have HBE := hid (((HB2.out.trans (HRV.out.below.mono HB2.out.size)).setCell (p := ⟨w.heap.size + 1, 0, none⟩) (Nat.le_succ _) (.int .i64 (m : Int))).setCell (p := ⟨w.heap.size + 1, 1, none⟩) (Nat.le_succ _) (.int .i64 (n : Int)) |>.setCell (p := ⟨w.heap.size + 1, 2, none⟩) (Nat.le_succ _) (.slice av bs.length cv))
      have low : ∀ q, (Value.slice av bs.length cv).ownBlock = some q → w.heap.size + 1 < q := fun q hq => by have := HRV.out.row.lt hq; have := HS2.out; omega
      have ne : ∀ {e : Option Nat}, e = some (w.heap.size + 1) → (Value.slice av bs.length cv).ownBlock = none ∨ (Value.slice av bs.length cv).ownBlock ≠ e := fun {e} he => by
        cases hq : (Value.slice av bs.length cv).ownBlock with
        | none => exact .inl rfl
        | some q => exact .inr fun h => by rw [he] at h; have := low q hq; have := Option.some.inj h; omega
      have HRB : Hid (RowB (((wr.setCell ⟨w.heap.size + 1, 0, none⟩ (.int .i64 (m : Int))).setCell ⟨w.heap.size + 1, 1, none⟩ (.int .i64 (n : Int))).setCell ⟨w.heap.size + 1, 2, none⟩ (.slice av bs.length cv)) (W2.heap.size + 1) (.slice av bs.length cv) bs) := hid (World.ownsRow.kept (World.ownsRow.kept (World.ownsRow.kept HRV.out.row (grown_set _ _ _) (ne rfl)) (grown_set _ _ _) (ne rfl)) (grown_set _ _ _) (ne rfl))
      have hnp : W2.heap.size ≠ w.heap.size + 1 := by have := HS2.out; omega
      have hpn : w.heap.size + 1 ≠ W2.heap.size := fun e => hnp e.symm
      clear hrs hrd low ne
      go_wp2
      generalize ((wr.setCell ⟨w.heap.size + 1, 0, none⟩ (.int .i64 (m : Int))).setCell ⟨w.heap.size + 1, 1, none⟩ (.int .i64 (n : Int))).setCell ⟨w.heap.size + 1, 2, none⟩ (.slice av bs.length cv) = w9 at *
      obtain ⟨a9, c9, e9, h91, h92, h9⟩ := HRB.out.rdc
      cases e9
      exact bodyPost_ret (results_cell_row rfl _ _ (w.heap.size + 1) 24 _ (0, 0) _ rfl (row3 HRW.out) Try.underlying24 rfl (show (Try.prog.info? 24).map (·.size) = some 3 by kernel_rfl)) rfl ⟨_, _, rfl, h91, h92, h9, HBE.out⟩
end Go.Proofs.Ytmbfpekcfeeifaa
