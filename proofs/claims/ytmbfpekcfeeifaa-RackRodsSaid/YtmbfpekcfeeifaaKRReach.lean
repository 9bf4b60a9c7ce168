/- Package tuscheref05: the walk of reach. -/
import Derived.Test.YtmbfpekcfeeifaaKMat
import Derived.Test.YtmbfpekcfeeifaaKVia
import Derived.Test.YtmbfpekcfeeifaaKStiff
import Derived.StillTailTactics
namespace Go.Proofs.Ytmbfpekcfeeifaa
open Go.RowKit

/-- The table's beginning, and what braces make of it. -/
def K.eye : Nat → Nat → Bool := fun i j => decide (i = j)
def K.leadsR (m : Nat) (bs : List Br) : Nat → Nat → Bool := bs.foldl (fun M b => K.drawn M b.1.toNat (m + b.2.1.toNat) b.2.2) K.eye
theorem K.leadsR_take {m : Nat} {bs : List Br} {k : Nat} (h : k < bs.length) : K.leadsR m (bs.take (k + 1)) = K.drawn (K.leadsR m (bs.take k)) bs[k].1.toNat (m + bs[k].2.1.toNat) bs[k].2.2 := by
  unfold K.leadsR
  rw [List.take_succ_eq_append_getElem h, List.foldl_append]
  rfl
theorem K.with_or {M G : Nat → Nat → Bool} (h : ∀ x y, G x y = (K.eye x y || M x y)) (i j : Nat) : ∀ x y, K.with G i j x y = (K.eye x y || K.with M i j x y) := fun x y => by
  unfold K.with
  split
  · simp
  · exact h x y
theorem K.leadsR_or (m : Nat) (bs : List Br) : ∀ x y, K.leadsR m bs x y = (K.eye x y || K.leads m bs x y) := by
  have : ∀ (bs : List Br) (M G : Nat → Nat → Bool), (∀ x y, G x y = (K.eye x y || M x y)) → ∀ x y, bs.foldl (fun M b => K.drawn M b.1.toNat (m + b.2.1.toNat) b.2.2) G x y = (K.eye x y || bs.foldl (fun M b => K.drawn M b.1.toNat (m + b.2.1.toNat) b.2.2) M x y) := fun bs => by
    induction bs with
    | nil => intro M G h; exact h
    | cons b bs ih =>
      intro M G h
      rw [List.foldl_cons, List.foldl_cons]
      refine ih _ _ ?_
      unfold K.drawn
      split
      · exact K.with_or h _ _
      · split
        · exact K.with_or h _ _
        · exact K.with_or (K.with_or h _ _) _ _
  exact this bs _ _ (fun x y => by simp)
theorem K.leadsR_zero (m : Nat) (bs : List Br) (N : Nat) : K.FwK (K.leads m bs) N 0 (K.leadsR m bs) := by
  have h : ∀ x y, K.leadsR m bs x y = true ↔ x = y ∨ K.leads m bs x y = true := fun x y => by
    rw [K.leadsR_or, Bool.or_eq_true]
    unfold K.eye
    rw [decide_eq_true_iff]
  exact K.FwK.zero (fun x y _ _ => h x y) (fun x y => (h x y).1)

theorem K.leads_in {m n : Nat} {bs : List Br} (h : ∀ b ∈ bs, K.InB m n b) : ∀ i j, K.leads m bs i j = true → i < m + n ∧ j < m + n := by
  have one : ∀ {M : Nat → Nat → Bool}, (∀ i j, M i j = true → i < m + n ∧ j < m + n) → ∀ {p q}, p < m + n → q < m + n → ∀ i j, K.with M p q i j = true → i < m + n ∧ j < m + n := fun hM p q hp hq x y h => by
    unfold K.with at h
    split at h
    · rename_i e; rw [e.1, e.2]; exact ⟨hp, hq⟩
    · exact hM x y h
  have : ∀ (bs : List Br) (M : Nat → Nat → Bool), (∀ b ∈ bs, K.InB m n b) → (∀ i j, M i j = true → i < m + n ∧ j < m + n) → ∀ i j, bs.foldl (fun M b => K.drawn M b.1.toNat (m + b.2.1.toNat) b.2.2) M i j = true → i < m + n ∧ j < m + n := fun bs => by
    induction bs with
    | nil => intro M _ hM; exact hM
    | cons b bs ih =>
      intro M h hM
      rw [List.foldl_cons]
      obtain ⟨h1, h2, h3, h4⟩ := h b (List.mem_cons_self ..)
      refine ih _ (fun b hb => h b (List.mem_cons_of_mem _ hb)) ?_
      unfold K.drawn
      split
      · exact one hM (by omega) (by omega)
      · split
        · exact one hM (by omega) (by omega)
        · exact one (one hM (by omega) (by omega)) (by omega) (by omega)
  exact this bs _ h (fun i j h => by cases h)

/-- Rows of a table that is being made. -/
structure Rows0 (w : World) (lo bo N i : Nat) (ib : Nat → Nat) : Prop where
  outer : w.rowIs bo 84 N (fun q => if q < i then .slice (some ⟨ib q, 0, none⟩) N N else .slice none 0 0)
  inner : ∀ q, q < i → w.rowIs (ib q) 4 N (fun j => .bool (K.eye q j))
  inj : ∀ p q, p < i → q < i → ib p = ib q → p = q
  lo1 : lo ≤ bo
  lo2 : ∀ q, q < i → bo < ib q
theorem Rows0.mat {w : World} {lo bo N : Nat} {ib : Nat → Nat} (h : Rows0 w lo bo N N ib) : MatAt w lo bo N ib K.eye :=
  ⟨h.outer.congr fun q hq => by rw [if_pos hq], h.inner, h.inj, h.lo1, h.lo2⟩
theorem Rows0.next {w : World} {lo bo N i : Nat} {ib : Nat → Nat} (h : Rows0 w lo bo N i ib) (hi : i < N) :
    Rows0 (((w.setCell ⟨bo, i, none⟩ (.slice (some ⟨w.heap.size, 0, none⟩) N N)).alloc (.cells (madeCells #[.bool false] N) 4)).setCell ⟨w.heap.size, i, none⟩ (.bool true)) lo bo N (i + 1) (fun q => if q = i then w.heap.size else ib q) := by
  have hbo : bo < w.heap.size := h.outer.lt
  have hib : ∀ q, q < i → ib q < w.heap.size := fun q hq => (h.inner q hq).lt
  have g2 := grown_set (w := w) bo i (.slice (some ⟨w.heap.size, 0, none⟩) N N)
  have hsz : (w.setCell ⟨bo, i, none⟩ (.slice (some ⟨w.heap.size, 0, none⟩) N N)).heap.size = w.heap.size := by simp [World.setCell]
  have g3 := grown_set (w := (w.setCell ⟨bo, i, none⟩ (.slice (some ⟨w.heap.size, 0, none⟩) N N)).alloc (.cells (madeCells #[.bool false] N) 4)) w.heap.size i (.bool true)
  have hmade := World.rowIs_made (w.setCell ⟨bo, i, none⟩ (.slice (some ⟨w.heap.size, 0, none⟩) N N)) (.bool false) N 4
  rw [hsz] at hmade
  refine ⟨?_, fun q hq => ?_, fun p q hp hq e => ?_, h.lo1, fun q hq => ?_⟩
  · refine (row_grown ((h.outer.set i _).alloc _) g3 (fun e => by have := Option.some.inj e; omega)).congr fun q _ => ?_
    by_cases e : q = i
    · subst e; simp
    · by_cases e2 : q < i
      · simp [e, e2, show q < i + 1 by omega]
      · simp [e, e2, show ¬ q < i + 1 by omega]
  · by_cases e : q = i
    · subst e
      rw [if_pos rfl]
      refine (hmade.set q (.bool true)).congr fun j _ => ?_
      unfold K.eye
      by_cases ej : j = q
      · subst ej; simp
      · rw [if_neg ej, decide_eq_false (fun e => ej e.symm)]
    · rw [if_neg e]
      have hq' : q < i := by omega
      have := hib q hq'
      have := h.lo2 q hq'
      exact row_grown ((row_grown (h.inner q hq') g2 (fun e => by have := Option.some.inj e; omega)).alloc _) g3 (fun e => by have := Option.some.inj e; omega)
  · by_cases ep : p = i
    · by_cases eq : q = i
      · omega
      · rw [if_pos ep, if_neg eq] at e
        have := hib q (by omega); omega
    · by_cases eq : q = i
      · rw [if_neg ep, if_pos eq] at e
        have := hib p (by omega); omega
      · rw [if_neg ep, if_neg eq] at e
        exact h.inj p q (by omega) (by omega) e
  · by_cases e : q = i
    · rw [if_pos e]; exact hbo
    · rw [if_neg e]; exact h.lo2 q (by omega)

theorem still_of_quiet {P : Program} {ops : Array Oper} {w : World} {Q : Act → Prop} : ∀ (l : List Oper) (a : Act), wpQuiet P ops (fun x => x = w) Q l a → wpStill P ops w Q l a
  | [], _, h => h
  | o :: l, a, h => by
    unfold wpQuiet at h
    unfold wpStill
    split at h
    · rename_i hw
      rw [if_pos hw]
      obtain ⟨v, h1, h2⟩ := h
      have h3 := h1 w rfl
      have ih := still_of_quiet l _ h2
      unfold Oper.quietAt at h3
      unfold Oper.still
      generalize (execOp a.eval o).run P w = r at h3 ⊢
      unfold Oper.quietUpon at h3
      unfold Oper.stillUpon
      split at h3
      · obtain ⟨rfl, rfl⟩ := h3; exact ⟨rfl, ih⟩
      · obtain ⟨rfl, rfl⟩ := h3; exact ⟨rfl, ih⟩
      · obtain ⟨rfl, h4⟩ := h3; exact ⟨rfl, v, h4, ih⟩
      · cases h3
    · rename_i hw
      rw [if_neg hw]
      exact still_of_quiet l _ h

/-- A table that is returned. -/
def K.Mat (N : Nat) (R : Nat → Nat → Prop) (w : World) (e : Ending) (w' : World) : Prop :=
  ∃ bo ib F, e = .returned (.slice (some ⟨bo, 0, none⟩) N N) ∧ MatAt w' w.heap.size bo N ib F ∧ (∀ x y, x < N → y < N → (F x y = true ↔ R x y)) ∧ Below w.heap.size w w'

set_option maxHeartbeats 8000000 in
set_option maxRecDepth 100000 in
theorem refReach_any (m n : Nat) (a : Option Addr) (c : Nat) (bs : List Br) (w : World) (hm : bs.length ≤ maxLen) (hR : RdB w a bs) (h1 : m ≤ 6) (h2 : n ≤ 6) (hv : ∀ b ∈ bs, K.InB m n b) :
    Calls Try.prog 56 #[K.rk m n a bs.length c] w (K.Mat (m + n) (K.Reach (K.leads m bs)) w) := by
  have hb0 : Below w.heap.size w (w.alloc (.cells #[.int .i64 (m : Int), .int .i64 (n : Int), .slice a bs.length c] 28)) := (Below.refl _ _).alloc (Nat.le_refl _) _
  have k0 : (w.alloc (.cells #[.int .i64 (m : Int), .int .i64 (n : Int), .slice a bs.length c] 28)).cell? ⟨w.heap.size, 0, none⟩ = some (.int .i64 m) := by rw [World.cell?_alloc_at _ _ _ _ rfl]; rfl
  have k1 : (w.alloc (.cells #[.int .i64 (m : Int), .int .i64 (n : Int), .slice a bs.length c] 28)).cell? ⟨w.heap.size, 1, none⟩ = some (.int .i64 n) := by rw [World.cell?_alloc_at _ _ _ _ rfl]; rfl
  have k2 : (w.alloc (.cells #[.int .i64 (m : Int), .int .i64 (n : Int), .slice a bs.length c] 28)).cell? ⟨w.heap.size, 2, none⟩ = some (.slice a bs.length c) := by rw [World.cell?_alloc_at _ _ _ _ rfl]; rfl
  have HS1 : Hid ((w.alloc (.cells #[.int .i64 (m : Int), .int .i64 (n : Int), .slice a bs.length c] 28)).heap.size = w.heap.size + 1) := hid (by simp)
  have HB0 := hid hb0
  have HK0 := hid k0
  have HK2 := hid k2
  have HT := hid (hR.stays hb0)
  have HV := hid hv
  have HBD := hid (K.leads_bnd h1 h2 hv)
  have hmk := run_make_row' (P := Try.prog) 96 84 (.slice none 0 0) 24 Try.underlying96 (by kernel_rfl) rfl .i64 .i64 (m + n) (by omega) (by omega)
  have HMK2 := hid (run_make_row' (P := Try.prog) 84 4 (.bool false) 1 Try.underlying84 (by kernel_rfl) rfl .i64 .i64 (m + n) (by omega) (by omega))
  have hsum : (m : Int) + (n : Int) = ((m + n : Nat) : Int) := by omega
  have HN : Hid (m + n ≤ 12) := hid (by omega)
  clear hb0 hR hv
  unfold maxLen at hm
  unfold K.rk
  have hN12 : m + n ≤ 12 := by omega
  generalize hNe : m + n = N at *
  have HNE := hid hNe
  clear hNe
  go_enter Try.func56, Try.ntmps56
  go_wp2_with fail
  clear hmk hsum
  generalize hw1 : w.alloc (.cells #[.int .i64 (m : Int), .int .i64 (n : Int), .slice a bs.length c] 28) = w1 at *
  clear hw1
  have HR0 : Hid (Rows0 (w1.alloc (.cells (madeCells #[.slice none 0 0] N) 84)) w1.heap.size w1.heap.size N 0 (fun _ => 0)) := hid ⟨(World.rowIs_made w1 (.slice none 0 0) N 84).congr (fun q _ => by simp), fun q hq => absurd hq (Nat.not_lt_zero _), fun p q hp => absurd hp (Nat.not_lt_zero _), Nat.le_refl _, fun q hq => absurd hq (Nat.not_lt_zero _)⟩
  have HB1 := hid ((Below.refl w1.heap.size w1).alloc (Nat.le_refl _) (.cells (madeCells #[.slice none 0 0] N) 84))
  generalize w1.alloc (.cells (madeCells #[.slice none 0 0] N) 84) = w2 at *
  rw [← HS1.out]
  have HL1 := hid (show w.heap.size < w1.heap.size by rw [HS1.out]; exact Nat.lt_succ_self _)
  clear k0 k1 k2
  go_loopw [5] (fun s wr => ∃ i : Nat, i ≤ N ∧ s = .int .i64 i ∧ ∃ ib, Rows0 wr w1.heap.size w1.heap.size N i ib ∧ Below w1.heap.size w1 wr) (fun s _ => N - (intOf s).toNat)
  case atStart => exact ⟨0, Nat.zero_le _, rfl, _, HR0.out, HB1.out⟩
  case round =>
    clear HR0 HB1
    obtain ⟨i, hi, rfl, ib, hr, hb⟩ := hrel
    have HRR := hid hr
    have HB := hid hb
    clear hr hb
    by_cases hlt : i < N
    · have hmk2 := HMK2.out
      have hix : (0 : Int) ≤ (i : Int) ∧ (i : Int) < (N : Int) := by omega
      have hbo := HRR.out.outer.lt
      have HNX := hid (HRR.out.next hlt)
      have hsz : (wr.setCell ⟨w1.heap.size, i, none⟩ (.slice (some ⟨wr.heap.size, 0, none⟩) N N)).heap.size = wr.heap.size := by simp [World.setCell]
      have HBX : Hid (Below w1.heap.size w1 (((wr.setCell ⟨w1.heap.size, i, none⟩ (.slice (some ⟨wr.heap.size, 0, none⟩) N N)).alloc (.cells (madeCells #[.bool false] N) 4)).setCell ⟨wr.heap.size, i, none⟩ (.bool true))) := hid (((HB.out.setCell (Nat.le_refl _) _).alloc (by rw [hsz]; exact HB.out.size) _).setCell HB.out.size _)
      have y1 := HRR.out.outer.cell hlt
      rw [if_neg (Nat.lt_irrefl _)] at y1
      have f1 := HRR.out.outer.frozen i
      have r2 := (HRR.out.outer.set i (.slice (some ⟨wr.heap.size, 0, none⟩) N N)).alloc (.cells (madeCells #[.bool false] N) 4)
      have y2 := r2.cell hlt
      rw [if_pos rfl] at y2
      have r3 := World.rowIs_made (wr.setCell ⟨w1.heap.size, i, none⟩ (.slice (some ⟨wr.heap.size, 0, none⟩) N N)) (.bool false) N 4
      rw [hsz] at r3
      have y3 := r3.cell hlt
      have f3 := r3.frozen i
      have HEQ := hid (World.setCell_alloc_at (w := wr.setCell ⟨w1.heap.size, i, none⟩ (.slice (some ⟨wr.heap.size, 0, none⟩) N N)) (madeCells #[.bool false] N) 4 wr.heap.size i (.bool true) hsz.symm)
      clear hsz r2 r3
      go_wp2
      go_roundw
      case rel => exact ⟨i + 1, by omega, by go_num, _, by rw [← HEQ.out]; exact HNX.out, by rw [← HEQ.out]; exact HBX.out⟩
      case measure => simp [intOf]; omega
    · have hie : N = i := by omega
      subst hie
      have HM0 := hid HRR.out.mat
      clear HRR HMK2
      go_wp2
      have hN6 : m + n = N := HNE.out
      clear hN6
      go_loopw [6] (fun s wr => ∃ k : Nat, k ≤ bs.length ∧ s = .int .i64 k ∧ MatAt wr w1.heap.size w1.heap.size N ib (K.leadsR m (bs.take k)) ∧ Below w1.heap.size w1 wr) (fun s _ => bs.length - (intOf s).toNat)
      case atStart => exact ⟨0, Nat.zero_le _, rfl, HM0.out, HB.out⟩
      case round =>
        clear HM0 HB
        obtain ⟨k, hk, rfl, hmt, hb⟩ := hrel
        have HMT := hid hmt
        have HB := hid hb
        have q2 := cell_stays hb (by exact Nat.le_refl _) HK2.out
        have q0 := cell_stays hb (by exact Nat.le_refl _) HK0.out
        have hsz : w.heap.size < wr.heap.size := Nat.lt_of_lt_of_le HL1.out hb.size
        clear hmt hb
        by_cases hlt : k < bs.length
        · obtain ⟨b, off, rfl, c1, c2, c3⟩ := (HT.out.stays HB.out) k hlt
          have HLT := hid (K.leadsR_take (m := m) hlt)
          have hin := HV.out _ (List.getElem_mem hlt)
          generalize bs[k] = br at *
          obtain ⟨x, y, z⟩ := br
          obtain ⟨g1, g2, g3, g4⟩ := hin
          simp only at g1 g2 g3 g4 c1 c2 c3
          obtain ⟨p, rfl⟩ : ∃ p : Nat, x = (p : Int) := ⟨x.toNat, by omega⟩
          obtain ⟨q, rfl⟩ : ∃ q : Nat, y = (q : Int) := ⟨y.toNat, by omega⟩
          have hmn := HNE.out
          have hp : p < N := by omega
          have hq : m + q < N := by omega
          clear g1 g2 g3 g4 hmn
          simp only [Int.toNat_natCast] at HLT
          obtain ⟨r, hr⟩ : ∃ r : Nat, r = m + q := ⟨_, rfl⟩
          rw [← hr] at HLT hq
          have hsum : (m : Int) + (q : Int) = (r : Int) := by omega
          have hws : IntKind.i64.wrap (r : Int) = (r : Int) := IntWalk.i64_in _ (by omega)
          clear hr
          have ip : (0 : Int) ≤ (p : Int) ∧ (p : Int) < (N : Int) := by omega
          have ir : (0 : Int) ≤ (r : Int) ∧ (r : Int) < (N : Int) := by omega
          have hix : (0 : Int) ≤ (k : Int) ∧ (k : Int) < (bs.length : Int) := by omega
          have HB2 := hid (HB.out.alloc HB.out.size (.cells #[.int .i64 (p : Int), .int .i64 (q : Int), .int .i64 z] 64))
          have HM2 := hid (HMT.out.grown ((Below.refl wr.heap.size wr).alloc (Nat.le_refl _) (.cells #[.int .i64 (p : Int), .int .i64 (q : Int), .int .i64 z] 64)))
          have HZ : Hid ((wr.alloc (.cells #[.int .i64 (p : Int), .int .i64 (q : Int), .int .i64 z] 64)).cell? ⟨wr.heap.size, 2, none⟩ = some (.int .i64 z)) := hid (by rw [World.cell?_alloc_at _ _ _ _ rfl]; rfl)
          have HIB : Hid (∀ i, i < N → ib i < wr.heap.size) := hid (fun i hi => (HMT.out.inner i hi).lt)
          go_wp2
          go_quiet (fail)
          have HM3 := hid (HM2.out.grown (below_drewN (Below.refl _ _) nq))
          have HB3 := hid (below_drewN HB2.out nq)
          have z0 : ((wr.alloc (.cells #[.int .i64 (p : Int), .int .i64 (q : Int), .int .i64 z] 64)).drewN nq).cell? ⟨wr.heap.size, 2, none⟩ = some (.int .i64 z) := HZ.out
          have hl9 : wr.heap.size < ((wr.alloc (.cells #[.int .i64 (p : Int), .int .i64 (q : Int), .int .i64 z] 64)).drewN nq).heap.size := World.block_lt_of_cell? _ _ z0
          clear HM2 HB2 HZ q0 q2 c1 c2 c3
          generalize (wr.alloc (.cells #[.int .i64 (p : Int), .int .i64 (q : Int), .int .i64 z] 64)).drewN nq = w5 at *
          have ibp := HIB.out p hp
          have ibr := HIB.out r hq
          have nb : wr.heap.size ≠ ib p := by omega
          have nb2 : wr.heap.size ≠ ib r := by omega
          have bp := HM3.out.lo2 p hp
          have br := HM3.out.lo2 r hq
          have y1 := HM3.out.row hp
          have y2 := HM3.out.row hq
          have y3 := HM3.out.at hp hq
          have y4 := HM3.out.at hq hp
          have f1 := (HM3.out.inner p hp).frozen r
          have f2 := (HM3.out.inner r hq).frozen p
          by_cases z2 : z = 2
          · subst z2
            have HND : Hid (K.leadsR m (bs.take (k + 1)) = K.with (K.leadsR m (bs.take k)) r p) := hid (by rw [HLT.out]; rfl)
            have HMN := hid (HM3.out.with (i := r) (j := p) hq)
            have HBN := hid (HB3.out.setCell (p := ⟨ib r, p, none⟩) (by show w1.heap.size ≤ ib r; omega) (.bool true))
            go_wp2
            go_roundw
            case rel => exact ⟨k + 1, by omega, by go_num, by rw [HND.out]; exact HMN.out, HBN.out⟩
            case measure => simp [intOf]; omega
          · by_cases z1 : z = 1
            · subst z1
              have HND : Hid (K.leadsR m (bs.take (k + 1)) = K.with (K.leadsR m (bs.take k)) p r) := hid (by rw [HLT.out]; rfl)
              have HMN := hid (HM3.out.with (i := p) (j := r) hp)
              have HBN := hid (HB3.out.setCell (p := ⟨ib p, r, none⟩) (by show w1.heap.size ≤ ib p; omega) (.bool true))
              go_wp2
              go_roundw
              case rel => exact ⟨k + 1, by omega, by go_num, by rw [HND.out]; exact HMN.out, HBN.out⟩
              case measure => simp [intOf]; omega
            · have HND : Hid (K.leadsR m (bs.take (k + 1)) = K.with (K.with (K.leadsR m (bs.take k)) p r) r p) := hid (by rw [HLT.out]; unfold K.drawn; rw [if_neg z2, if_neg z1])
              have d1 : (z != 2) = true := by simpa using z2
              have d2 : (z != 1) = true := by simpa using z1
              have HMA := hid (HM3.out.with (i := p) (j := r) hp)
              have HMN := hid (HMA.out.with (i := r) (j := p) hq)
              have HBN := hid ((HB3.out.setCell (p := ⟨ib p, r, none⟩) (by show w1.heap.size ≤ ib p; omega) (.bool true)).setCell (p := ⟨ib r, p, none⟩) (by show w1.heap.size ≤ ib r; omega) (.bool true))
              have y5 := HMA.out.row hq
              have y6 := HMA.out.at hq hp
              have f3 := (HMA.out.inner r hq).frozen p
              have z3 : (w5.setCell ⟨ib p, r, none⟩ (.bool true)).cell? ⟨wr.heap.size, 2, none⟩ = some (.int .i64 z) := (World.cell?_of_block (Below.heap_setCell _ _ _ _ nb)).trans z0
              go_wp2
              go_roundw
              case rel => exact ⟨k + 1, by omega, by go_num, by rw [HND.out]; exact HMN.out, HBN.out⟩
              case measure => simp [intOf]; omega
        · have hke : bs.length = k := by omega
          subst hke
          rw [List.take_length] at HMT
          have HF0 := hid (K.leadsR_zero m bs N)
          generalize K.leadsR m bs = F0 at *
          have HMB : Hid (∀ i j, K.leads m bs i j = true → j < N) := hid (fun i j h => by
            have hh := K.leads_in (m := m) (n := n) HV.out i j h
            have := HNE.out
            omega)
          generalize K.leads m bs = L at *
          clear HV HT
          go_wp2
          clear q2 q0 hsz
          go_loopw [10] (fun s wr => ∃ k : Nat, k ≤ N ∧ s = .int .i64 k ∧ ∃ F, K.FwK L N k F ∧ MatAt wr w1.heap.size w1.heap.size N ib F ∧ Below w1.heap.size w1 wr) (fun s _ => N - (intOf s).toNat)
          case atStart => exact ⟨0, Nat.zero_le _, rfl, _, HF0.out, HMT.out, HB.out⟩
          case round =>
            clear HF0 HMT HB F0
            obtain ⟨k, hk, rfl, F1, hfk, hmt, hb⟩ := hrel
            have HFK := hid hfk
            have HMT := hid hmt
            have HB := hid hb
            clear hfk hmt hb
            by_cases hkN : k < N
            · have HST := hid HFK.out.start
              go_wp2
              go_loopw [11] (fun s wr => ∃ i : Nat, i ≤ N ∧ s = .int .i64 i ∧ ∃ F, K.Fw L N F1 k i 0 F ∧ MatAt wr w1.heap.size w1.heap.size N ib F ∧ Below w1.heap.size w1 wr) (fun s _ => N - (intOf s).toNat)
              case atStart => exact ⟨0, Nat.zero_le _, rfl, _, HST.out, HMT.out, HB.out⟩
              case round =>
                clear HST HMT HB
                obtain ⟨i, hi, rfl, F2, hfw, hmt, hb⟩ := hrel
                have HFW := hid hfw
                have HMT := hid hmt
                have HB := hid hb
                clear hfw hmt hb
                by_cases hiN : i < N
                · go_wp2
                  go_loopw [12] (fun s wr => ∃ j : Nat, j ≤ N ∧ s = .int .i64 j ∧ ∃ F, K.Fw L N F1 k i j F ∧ MatAt wr w1.heap.size w1.heap.size N ib F ∧ Below w1.heap.size w1 wr) (fun s _ => N - (intOf s).toNat)
                  case atStart => exact ⟨0, Nat.zero_le _, rfl, _, HFW.out, HMT.out, HB.out⟩
                  case round =>
                    clear HFW HMT HB
                    obtain ⟨j, hj, rfl, F, hfw, hmt, hb⟩ := hrel
                    by_cases hjN : j < N
                    · have HNX := hid hfw.next
                      have hmt2 := hmt.grown (w' := wr.drew) (Below.refl _ _).drew
                      have hb2 := hb.drew
                      have HPT := hid (fun v (hv : v = (F i j || (F i k && F k j))) => hmt2.put hiN v (j := j) (G := K.fw1 F k i j) (fun x y _ _ => by unfold K.fw1; rw [hv]))
                      have HBN := hid (fun v => MatAt.below (w0 := w1) hmt2 hb2 hiN j v)
                      have y1 := hmt.row hiN
                      have y2 := hmt.row hkN
                      have y3 := hmt.at hiN hjN
                      have y4 := hmt.at hiN hkN
                      have y5 := hmt.at hkN hjN
                      have f1 := (hmt.inner i hiN).frozen j
                      have i1 : (0 : Int) ≤ (i : Int) ∧ (i : Int) < (N : Int) := by omega
                      have i2 : (0 : Int) ≤ (j : Int) ∧ (j : Int) < (N : Int) := by omega
                      have i3 : (0 : Int) ≤ (k : Int) ∧ (k : Int) < (N : Int) := by omega
                      clear hfw hmt hb hmt2 hb2
                      go_wp2
                      cases v1 : F i j with
                      | true =>
                        rw [v1] at y3
                        have HV1 := hid v1
                        clear v1
                        have n1 : ({ heap := wr.heap, tape := wr.tape, drawn := wr.drawn + 1, os := wr.os, output := wr.output } : World).cell? ⟨w1.heap.size, i, none⟩ = _ := y1
                        have n2 : ({ heap := wr.heap, tape := wr.tape, drawn := wr.drawn + 1, os := wr.os, output := wr.output } : World).cell? ⟨ib i, j, none⟩ = _ := y3
                        refine wp_region_still_tail 31 (by kernel_rfl) (by kernel_rfl) ?_
                        simp only [List.take_succ_cons, List.take_zero, List.drop_succ_cons, List.drop_zero]
                        refine still_of_quiet _ _ ?_
                        repeat go_big_quiet_step (fail)
                        refine wpQuiet_nil ?_
                        have s1 : wr.drew.cell? ⟨ib i, j, none⟩ = _ := y3
                        have s2 : wr.drew.frozen? ⟨ib i, j, none⟩ = false := f1
                        change wpList _ _ _ _ _ wr.drew
                        clear n1 n2 y1 y2 y3 y4 y5 f1
                        generalize wr.drew = wz at *
                        go_wp2
                        go_roundw
                        case rel => exact ⟨j + 1, by omega, by go_num, _, HNX.out, HPT.out _ (by rw [HV1.out]; rfl), HBN.out _⟩
                        case measure => simp [intOf]; omega
                      | false =>
                        rw [v1] at y3
                        have HV1 := hid v1
                        clear v1
                        cases v2 : F i k with
                        | false =>
                          rw [v2] at y4
                          have HV2 := hid v2
                          clear v2
                          have n1 : ({ heap := wr.heap, tape := wr.tape, drawn := wr.drawn + 1, os := wr.os, output := wr.output } : World).cell? ⟨w1.heap.size, i, none⟩ = _ := y1
                          have n2 : ({ heap := wr.heap, tape := wr.tape, drawn := wr.drawn + 1, os := wr.os, output := wr.output } : World).cell? ⟨ib i, j, none⟩ = _ := y3
                          have n3 : ({ heap := wr.heap, tape := wr.tape, drawn := wr.drawn + 1, os := wr.os, output := wr.output } : World).cell? ⟨ib i, k, none⟩ = _ := y4
                          refine wp_region_still_tail 31 (by kernel_rfl) (by kernel_rfl) ?_
                          simp only [List.take_succ_cons, List.take_zero, List.drop_succ_cons, List.drop_zero]
                          refine still_of_quiet _ _ ?_
                          repeat go_big_quiet_step (fail)
                          refine wpQuiet_nil ?_
                          have s1 : wr.drew.cell? ⟨ib i, j, none⟩ = _ := y3
                          have s2 : wr.drew.frozen? ⟨ib i, j, none⟩ = false := f1
                          change wpList _ _ _ _ _ wr.drew
                          clear n1 n2 n3 y1 y2 y3 y4 y5 f1
                          generalize wr.drew = wz at *
                          go_wp2
                          go_roundw
                          case rel => exact ⟨j + 1, by omega, by go_num, _, HNX.out, HPT.out _ (by rw [HV1.out, HV2.out]; rfl), HBN.out _⟩
                          case measure => simp [intOf]; omega
                        | true =>
                          rw [v2] at y4
                          have HV2 := hid v2
                          clear v2
                          have n1 : ({ heap := wr.heap, tape := wr.tape, drawn := wr.drawn + 1, os := wr.os, output := wr.output } : World).cell? ⟨w1.heap.size, i, none⟩ = _ := y1
                          have n2 : ({ heap := wr.heap, tape := wr.tape, drawn := wr.drawn + 1, os := wr.os, output := wr.output } : World).cell? ⟨w1.heap.size, k, none⟩ = _ := y2
                          have n3 : ({ heap := wr.heap, tape := wr.tape, drawn := wr.drawn + 1, os := wr.os, output := wr.output } : World).cell? ⟨ib i, j, none⟩ = _ := y3
                          have n4 : ({ heap := wr.heap, tape := wr.tape, drawn := wr.drawn + 1, os := wr.os, output := wr.output } : World).cell? ⟨ib i, k, none⟩ = _ := y4
                          have n5 : ({ heap := wr.heap, tape := wr.tape, drawn := wr.drawn + 1, os := wr.os, output := wr.output } : World).cell? ⟨ib k, j, none⟩ = _ := y5
                          refine wp_region_still_tail 31 (by kernel_rfl) (by kernel_rfl) ?_
                          simp only [List.take_succ_cons, List.take_zero, List.drop_succ_cons, List.drop_zero]
                          refine still_of_quiet _ _ ?_
                          repeat go_big_quiet_step (fail)
                          refine wpQuiet_nil ?_
                          have s1 : wr.drew.cell? ⟨ib i, j, none⟩ = _ := y3
                          have s2 : wr.drew.frozen? ⟨ib i, j, none⟩ = false := f1
                          change wpList _ _ _ _ _ wr.drew
                          clear n1 n2 n3 n4 n5 y1 y2 y3 y4 y5 f1
                          generalize wr.drew = wz at *
                          go_wp2
                          go_roundw
                          case rel => exact ⟨j + 1, by omega, by go_num, _, HNX.out, HPT.out _ (by rw [HV1.out, HV2.out]; rfl), HBN.out _⟩
                          case measure => simp [intOf]; omega
                    · have hje : N = j := by omega
                      subst hje
                      have HNX := hid hfw.row
                      have HMT := hid hmt
                      have HB := hid hb
                      clear hfw hmt hb
                      go_wp2
                      go_roundw
                      case rel => exact ⟨i + 1, by omega, by go_num, _, HNX.out, HMT.out, HB.out⟩
                      case measure => simp [intOf]; omega
                · have hie : N = i := by omega
                  subst hie
                  have HNX := hid (HFW.out.finish HFK.out hkN)
                  go_wp2
                  go_roundw
                  case rel => exact ⟨k + 1, by omega, by go_num, _, HNX.out, HMT.out, HB.out⟩
                  case measure => simp [intOf]; omega
            · have hke : N = k := by omega
              subst hke
              have HRC := hid (fun x y (hx : x < N) (hy : y < N) => HFK.out.reach HMB.out hx hy)
              have HFB := hid (HB0.out.trans (HB.out.mono HB0.out.size))
              have HMW : Hid (MatAt wr w.heap.size w1.heap.size N ib F1) := hid ⟨HMT.out.outer, HMT.out.inner, HMT.out.inj, Nat.le_of_lt HL1.out, HMT.out.lo2⟩
              go_wp2
              go_ret
              exact ⟨_, ib, F1, rfl, HMW.out, HRC.out, HFB.out⟩
end Go.Proofs.Ytmbfpekcfeeifaa
