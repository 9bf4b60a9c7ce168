/- Package transfer: ways, pure; the walk of wayOf. -/
import Derived.Test.YtffcnjcglfkbnaaTBs
import Derived.BigQuiet
import Derived.Laws.ResultCell
namespace Go.Proofs.Ytffcnjcglfkbnaa
open Go.RowKit

/-- The first of the first m numbers that adds up with a to n. -/
def K.findK (l : List Int) (a n : Int) (m : Nat) : Option Nat := (List.range m).find? fun k => a + l.getD k 0 == n
/-- The way, by the first m numbers as the greater one. -/
def K.wayD (l : List Int) (n : Int) : Nat → Option (Nat × Nat)
  | 0 => none
  | m + 1 => match K.findK l (l.getD m 0) n (m + 1) with
    | some k => some (m, k)
    | none => K.wayD l n m
def K.way (l : List Int) (n : Int) : Option (Nat × Nat) := K.wayD l n l.length
def K.pairOf (o : Option (Nat × Nat)) (d : Int) : Value := match o with
  | some (i, k) => .agg #[.int .i64 (i : Nat), .int .i64 (k : Nat)]
  | none => .agg #[.int .i64 d, .int .i64 d]

theorem K.findK_none {l : List Int} {a n : Int} {m : Nat} (h : ∀ k, k < m → a + l.getD k 0 ≠ n) : K.findK l a n m = none := by
  unfold K.findK
  rw [List.find?_eq_none]
  intro k hk
  have := h k (List.mem_range.1 hk)
  simpa using this
theorem K.findK_some {l : List Int} {a n : Int} {m k : Nat} (hk : k < m) (he : a + l.getD k 0 = n) (h : ∀ j, j < k → a + l.getD j 0 ≠ n) : K.findK l a n m = some k := by
  unfold K.findK
  rw [List.find?_eq_some_iff_append]
  refine ⟨by rw [beq_iff_eq]; exact he, List.range k, (List.range' (k + 1) (m - k - 1)), ?_, fun j hj => ?_⟩
  · rw [List.range_eq_range', List.range_eq_range']
    have : m = k + (1 + (m - k - 1)) := by omega
    conv => lhs; rw [this]
    rw [← List.range'_append_1, Nat.zero_add, ← List.range'_append_1]
    simp
  · have := h j (List.mem_range.1 hj)
    simpa using this
/-- Of an ascending row: what BinarySearch finds. -/
theorem K.findK_asc {l : List Int} {a n : Int} {m : Nat} (hm : m ≤ l.length) (hs : l.Pairwise (· < ·)) : K.findK l a n m = if (l.take m).contains (n - a) = true then some ((l.take m).countP (· < n - a)) else none := by
  have key : ∀ (p : List Int), p.Pairwise (· < ·) → ∀ t : Int, p.contains t = true → p.countP (· < t) < p.length ∧ p.getD (p.countP (· < t)) 0 = t ∧ ∀ j, j < p.countP (· < t) → p.getD j 0 ≠ t := by
    intro p
    induction p with
    | nil => intro _ t h; simp at h
    | cons x p ih =>
      intro hp t h
      rw [List.pairwise_cons] at hp
      by_cases hx : x < t
      · have ht : p.contains t = true := by
          simp only [List.contains_cons, Bool.or_eq_true, beq_iff_eq] at h
          rcases h with h | h
          · omega
          · exact h
        obtain ⟨i1, i2, i3⟩ := ih hp.2 t ht
        have e : (x :: p).countP (· < t) = p.countP (· < t) + 1 := by rw [List.countP_cons]; simp [hx]
        rw [e]
        refine ⟨by simpa using i1, by simpa using i2, fun j hj => ?_⟩
        cases j with
        | zero => simp; omega
        | succ j => simpa using i3 j (by omega)
      · have hz : p.countP (· < t) = 0 := by
          rw [List.countP_eq_zero]
          intro y hy
          have := hp.1 y hy
          simp; omega
        have e : (x :: p).countP (· < t) = 0 := by rw [List.countP_cons, hz]; simp [hx]
        rw [e]
        have hxt : x = t := by
          simp only [List.contains_cons, Bool.or_eq_true, beq_iff_eq] at h
          rcases h with h | h
          · exact h.symm
          · have hmem : t ∈ p := by simpa using h
            have := hp.1 t hmem
            omega
        exact ⟨by simp, by simp [hxt], fun j hj => absurd hj (Nat.not_lt_zero _)⟩
  have hlen : (l.take m).length = m := by rw [List.length_take]; omega
  have hget : ∀ j, j < m → (l.take m).getD j 0 = l.getD j 0 := fun j hj => by simp [List.getD, hj]
  split
  · rename_i h
    obtain ⟨i1, i2, i3⟩ := key (l.take m) (hs.sublist (List.take_sublist m l)) (n - a) h
    rw [hlen] at i1
    rw [hget _ i1] at i2
    refine K.findK_some i1 (by omega) fun j hj => ?_
    have := i3 j hj
    rw [hget j (by omega)] at this
    omega
  · rename_i h
    refine K.findK_none fun k hk he => h ?_
    rw [List.contains_iff_mem]
    have : l.getD k 0 = n - a := by omega
    have hk' : k < (l.take m).length := by rw [hlen]; exact hk
    rw [← this, ← hget k hk, List.getD_eq_getElem?_getD, List.getElem?_eq_getElem hk', Option.getD_some]
    exact List.getElem_mem _

theorem cells2 {W : World} {g : Nat} {x y u v : Value} (h0 : W.cell? ⟨g, 0, none⟩ = some u) (h1 : W.cell? ⟨g, 1, none⟩ = some v) :
    ((W.setCell ⟨g, 0, none⟩ x).setCell ⟨g, 1, none⟩ y).cell? ⟨g, 0, none⟩ = some x ∧ ((W.setCell ⟨g, 0, none⟩ x).setCell ⟨g, 1, none⟩ y).cell? ⟨g, 1, none⟩ = some y := by
  refine ⟨?_, ?_⟩
  · rw [World.cell?_setCell_other _ _ _ _ (by simp)]
    exact World.cell?_setCell_same _ _ _ h0
  · refine World.cell?_setCell_same (u := v) _ _ _ ?_
    rw [World.cell?_setCell_other _ _ _ _ (by simp)]
    exact h1
theorem sliceTo (b off n c m : Nat) (w : World) (h : m ≤ c) : (Instr.sliceAt 22 (.slice (some ⟨b, off, none⟩) n c) none (some (.int .i64 (m : Int))) none).run Try.prog w = .ok (.slice (some ⟨b, off, none⟩) m c) w := by
  have hcm : ¬ c < m := by omega
  simp [go_sem, Instr.sliceAt, Try.underlying22, hcm]

set_option maxHeartbeats 4000000 in
set_option maxRecDepth 100000 in
theorem wayOf_any (b off c : Nat) (l : List Int) (n : Int) (w : World) (hm : l.length ≤ 100) (hc : l.length ≤ c) (hcm : c ≤ maxLen) (hn : 0 ≤ n ∧ n ≤ 1000) (hr : ∀ k, k < l.length → 0 ≤ l.getD k 0 ∧ l.getD k 0 ≤ 1000) (hs : l.Pairwise (· < ·)) (hx : ∀ k, k < l.length → w.cell? ⟨b, off + k, none⟩ = some (.int .i64 (l.getD k 0))) :
    Calls Try.prog 52 #[.slice (some ⟨b, off, none⟩) l.length c, .int .i64 n] w fun e w' => e = .returned (.tuple #[K.pairOf (K.way l n) 0, .bool (K.way l n).isSome]) ∧ Below w.heap.size w w' := by
  unfold maxLen at hcm
  have hb0 : Below w.heap.size w (w.alloc (.cells #[.int .i64 0, .int .i64 0] 58)) := (Below.refl _ _).alloc (Nat.le_refl _) _
  have HX : Hid (∀ k, k < l.length → (w.alloc (.cells #[.int .i64 0, .int .i64 0] 58)).cell? ⟨b, off + k, none⟩ = some (.int .i64 (l.getD k 0))) := hid fun k hk => cell_stays hb0 (Nat.le_refl _) (hx k hk)
  have hk0 : (w.alloc (.cells #[.int .i64 0, .int .i64 0] 58)).cell? ⟨w.heap.size, 0, none⟩ = some (.int .i64 0) := by rw [World.cell?_alloc_at _ _ _ _ rfl]; rfl
  have hk1 : (w.alloc (.cells #[.int .i64 0, .int .i64 0] 58)).cell? ⟨w.heap.size, 1, none⟩ = some (.int .i64 0) := by rw [World.cell?_alloc_at _ _ _ _ rfl]; rfl
  have hf0 : (w.alloc (.cells #[.int .i64 0, .int .i64 0] 58)).frozen? ⟨w.heap.size, 0, none⟩ = false := by simp
  have hf1 : (w.alloc (.cells #[.int .i64 0, .int .i64 0] 58)).frozen? ⟨w.heap.size, 1, none⟩ = false := by simp
  have HB := hid hb0
  have HR := hid hr
  have HS := hid hs
  have HC : Hid (∀ (q m : Nat) (t : Int), m + 1 ≤ l.length → Calls Try.prog 71 #[.slice (some ⟨b, off, none⟩) (m + 1) c, .int .i64 t] ((w.alloc (.cells #[.int .i64 0, .int .i64 0] 58)).drewN q) fun e w' => e = .returned (.tuple #[.int .i64 ((l.take (m + 1)).countP (· < t) : Nat), .bool ((l.take (m + 1)).contains t)]) ∧ ∃ n, w' = ((w.alloc (.cells #[.int .i64 0, .int .i64 0] 58)).drewN q).drewN n) := hid fun q m t hmt =>
    search_calls b off (m + 1) c l t _ (by omega) (by omega) (fun j hj => by
      have := cell_stays hb0 (Nat.le_refl _) (hx j hj)
      exact this) ((hs.imp (fun h => Int.le_of_lt h)).sublist (List.take_sublist _ _))
  clear hb0 hx hr hs
  go_enter Try.func52, Try.ntmps52
  go_wp2
  generalize w.alloc (.cells #[.int .i64 0, .int .i64 0] 58) = w1 at *
  go_loopw [6] (fun i wr => ∃ m : Nat, m ≤ l.length ∧ i = .int .i64 ((m : Int) - 1) ∧ K.way l n = K.wayD l n m ∧ ∃ q, wr = w1.drewN q) (fun i _ => (intOf i + 1).toNat)
  case atStart => exact ⟨l.length, Nat.le_refl _, by go_num, rfl, 0, rfl⟩
  case round =>
    obtain ⟨m, hml, rfl, hw, q, rfl⟩ := hrel
    cases m with
    | zero =>
      have HN : Hid (K.way l n = none) := hid hw
      clear hw
      go_wp2
      refine bodyPost_ret (?_ : (results _ _).run _ _ = .ok (.tuple #[.agg #[.int .i64 0, .int .i64 0], .bool false]) _) ?_ ?_
      · rw [results_cell_tmp rfl]
        obtain ⟨c0, c1⟩ := cells2 (W := w1.drewN q) (g := w.heap.size) (x := .int .i64 0) (y := .int .i64 0) hk0 hk1
        generalize ((w1.drewN q).setCell ⟨w.heap.size, 0, none⟩ (.int .i64 0)).setCell ⟨w.heap.size, 1, none⟩ (.int .i64 0) = w3 at c0 c1 ⊢
        simp [go_sem, c0, c1]
      · rfl
      · rw [HN.out]; exact ⟨rfl, ((below_drewN HB.out q).setCell (p := ⟨w.heap.size, 0, none⟩) (Nat.le_refl _) _).setCell (p := ⟨w.heap.size, 1, none⟩) (Nat.le_refl _) _⟩
    | succ m =>
      have HF := hid (K.findK_asc (l := l) (a := l.getD m 0) (n := n) (m := m + 1) (by omega) HS.out)
      have hxm := HX.out m (by omega)
      have hrm := HR.out m (by omega)
      have HW := hid hw
      clear hw
      have em : (((m + 1 : Nat) : Int) - 1) = (m : Int) := by omega
      rw [em]
      have HC2 : Hid (∀ r, Calls Try.prog 71 #[.slice (some ⟨b, off, none⟩) (m + 1) c, .int .i64 (n - l.getD m 0)] (w1.drewN (q + r)) fun e w' => e = .returned (.tuple #[.int .i64 ((l.take (m + 1)).countP (· < n - l.getD m 0) : Nat), .bool ((l.take (m + 1)).contains (n - l.getD m 0))]) ∧ ∃ n, w' = w1.drewN (q + n)) := hid fun r => by
        refine (HC.out (q + r) m (n - l.getD m 0) hml).mono ?_
        rintro e w' ⟨rfl, t, rfl⟩
        exact ⟨rfl, r + t, by rw [World.drewN_drewN, Nat.add_assoc]⟩
      generalize hlm : l.getD m 0 = a at *
      generalize hct : (l.take (m + 1)).countP (· < n - a) = k at *
      have h1 : (0 : Int) ≤ (m : Int) ∧ (m : Int) < (l.length : Int) := by omega
      have h2 : (0 : Int) ≤ (m : Int) + 1 ∧ (m : Int) + 1 ≤ (c : Int) := by omega
      have h3 : ¬ c = 0 := by omega
      have hwr : IntKind.i64.wrap ((m : Int) + 1) = (m : Int) + 1 := IntWalk.i64_in _ (by omega)
      have htn : ((m : Int) + 1).toNat = m + 1 := by omega
      have hw2 : IntKind.i64.wrap (n - a) = n - a := IntWalk.i64_in _ (by omega)
      by_cases hin : (l.take (m + 1)).contains (n - a) = true
      · rw [hin] at HC2
        have HN : Hid (K.way l n = some (m, k)) := hid (by rw [HW.out]; unfold K.wayD; rw [hlm, HF.out, if_pos hin])
        clear hin HF
        go_wp2
        go_quiet ((go_at_call 71; exact HC2.out _))
        go_wp2
        refine bodyPost_ret (?_ : (results _ _).run _ _ = .ok (.tuple #[.agg #[.int .i64 (m : Nat), .int .i64 (k : Nat)], .bool true]) _) ?_ ?_
        · rw [results_cell_tmp rfl]
          obtain ⟨c0, c1⟩ := cells2 (W := w1.drewN (q + nq)) (g := w.heap.size) (x := .int .i64 (m : Nat)) (y := .int .i64 (k : Nat)) hk0 hk1
          generalize ((w1.drewN (q + nq)).setCell ⟨w.heap.size, 0, none⟩ (.int .i64 (m : Nat))).setCell ⟨w.heap.size, 1, none⟩ (.int .i64 (k : Nat)) = w3 at c0 c1 ⊢
          simp [go_sem, c0, c1]
        · rfl
        · rw [HN.out]; exact ⟨rfl, ((below_drewN HB.out (q + nq)).setCell (p := ⟨w.heap.size, 0, none⟩) (Nat.le_refl _) _).setCell (p := ⟨w.heap.size, 1, none⟩) (Nat.le_refl _) _⟩
      · have hin' : (l.take (m + 1)).contains (n - a) = false := by simpa using hin
        rw [hin'] at HC2
        have HN : Hid (K.way l n = K.wayD l n m) := hid (by rw [HW.out]; conv => lhs; unfold K.wayD; rw [hlm, HF.out, if_neg hin])
        clear hin hin' HF
        go_wp2
        go_quiet ((go_at_call 71; exact HC2.out _))
        go_wp2
        go_roundw
        case rel => exact ⟨m, by omega, by go_num, HN.out, _, rfl⟩
        case measure => simp [intOf]

theorem results_cell_one {fn : Func} {p : Tmp} {ty : TypeId} (h : fn.results = #[.cell p ty]) (tmps : Array Value) (P : Program) (w : World) :
    (results fn tmps).run P w = ((asAddr (tmps.getD p undef)).run P w).andThen fun a w₁ => (loadVar ty a).run P w₁ := by
  simp only [results, h]
  simp [Sem.run_bind, Result.andThen]

set_option maxHeartbeats 4000000 in
set_option maxRecDepth 100000 in
theorem refWay_any (b off c : Nat) (l : List Int) (n : Int) (w : World) (hm : l.length ≤ 100) (hr : ∀ k, k < l.length → 0 ≤ l.getD k 0 ∧ l.getD k 0 ≤ 1000) (hx : ∀ k, k < l.length → w.cell? ⟨b, off + k, none⟩ = some (.int .i64 (l.getD k 0))) :
    Calls Try.prog 48 #[.slice (some ⟨b, off, none⟩) l.length c, .int .i64 n] w fun e w' => e = .returned (K.pairOf (K.way l n) (-1)) ∧ Below w.heap.size w w' := by
  have hb0 : Below w.heap.size w (w.alloc (.cells #[.int .i64 0, .int .i64 0] 58)) := (Below.refl _ _).alloc (Nat.le_refl _) _
  have HX : Hid (∀ k, k < l.length → (w.alloc (.cells #[.int .i64 0, .int .i64 0] 58)).cell? ⟨b, off + k, none⟩ = some (.int .i64 (l.getD k 0))) := hid fun k hk => cell_stays hb0 (Nat.le_refl _) (hx k hk)
  have hk0 : (w.alloc (.cells #[.int .i64 0, .int .i64 0] 58)).cell? ⟨w.heap.size, 0, none⟩ = some (.int .i64 0) := by rw [World.cell?_alloc_at _ _ _ _ rfl]; rfl
  have hk1 : (w.alloc (.cells #[.int .i64 0, .int .i64 0] 58)).cell? ⟨w.heap.size, 1, none⟩ = some (.int .i64 0) := by rw [World.cell?_alloc_at _ _ _ _ rfl]; rfl
  have hf0 : (w.alloc (.cells #[.int .i64 0, .int .i64 0] 58)).frozen? ⟨w.heap.size, 0, none⟩ = false := by simp
  have hf1 : (w.alloc (.cells #[.int .i64 0, .int .i64 0] 58)).frozen? ⟨w.heap.size, 1, none⟩ = false := by simp
  have HB := hid hb0
  have HLEN := hid hm
  have HR := hid hr
  clear hx hr hb0
  go_enter Try.func48, Try.ntmps48
  go_wp2
  generalize w.alloc (.cells #[.int .i64 0, .int .i64 0] 58) = w1 at *
  go_loopw [5] (fun i wr => ∃ m : Nat, m ≤ l.length ∧ i = .int .i64 ((m : Int) - 1) ∧ K.way l n = K.wayD l n m ∧ ∃ q, wr = w1.drewN q) (fun i _ => (intOf i + 1).toNat)
  case atStart => exact ⟨l.length, Nat.le_refl _, by go_num, rfl, 0, rfl⟩
  case round =>
    obtain ⟨m, hml, rfl, hw, q, rfl⟩ := hrel
    cases m with
    | zero =>
      have HN : Hid (K.way l n = none) := hid hw
      clear hw
      go_wp2
      refine bodyPost_ret (?_ : (results _ _).run _ _ = .ok (.agg #[.int .i64 (-1), .int .i64 (-1)]) _) ?_ ?_
      · rw [results_cell_one rfl]
        obtain ⟨c0, c1⟩ := cells2 (W := w1.drewN q) (g := w.heap.size) (x := .int .i64 (-1)) (y := .int .i64 (-1)) hk0 hk1
        generalize ((w1.drewN q).setCell ⟨w.heap.size, 0, none⟩ (.int .i64 (-1))).setCell ⟨w.heap.size, 1, none⟩ (.int .i64 (-1)) = w3 at c0 c1 ⊢
        simp [go_sem, c0, c1]
      · rfl
      · rw [HN.out]; exact ⟨rfl, ((below_drewN HB.out q).setCell (p := ⟨w.heap.size, 0, none⟩) (Nat.le_refl _) _).setCell (p := ⟨w.heap.size, 1, none⟩) (Nat.le_refl _) _⟩
    | succ m =>
      have hxm := HX.out m (by omega)
      have hrm := HR.out m (by omega)
      have HW := hid hw
      clear hw
      have em : (((m + 1 : Nat) : Int) - 1) = (m : Int) := by omega
      rw [em]
      generalize hlm : l.getD m 0 = a at *
      have HLM := hid hlm
      clear hlm
      go_wp2
      go_loopw [6] (fun i wr => ∃ k : Nat, k ≤ m + 1 ∧ i = .int .i64 k ∧ (∀ j, j < k → a + l.getD j 0 ≠ n) ∧ ∃ q, wr = w1.drewN q) (fun i _ => m + 1 - (intOf i).toNat)
      case atStart => exact ⟨0, Nat.zero_le _, rfl, fun j hj => absurd hj (Nat.not_lt_zero _), _, rfl⟩
      case round =>
        obtain ⟨k, hk, rfl, hno, q2, rfl⟩ := hrel
        have HNO := hid hno
        clear hno
        by_cases hkm : k < m + 1
        · have hxk := HX.out k (by omega)
          have hrk := HR.out k (by omega)
          have h1 : (0 : Int) ≤ (m : Int) ∧ (m : Int) < (l.length : Int) := by omega
          have h2 : (0 : Int) ≤ (k : Int) ∧ (k : Int) < (l.length : Int) := by omega
          have hle : (k : Int) ≤ (m : Int) := by omega
          generalize hlk : l.getD k 0 = d at *
          have hwr : IntKind.i64.wrap (a + d) = a + d := IntWalk.i64_in _ (by omega)
          by_cases he : a + d = n
          · have HN : Hid (K.way l n = some (m, k)) := hid (by
              rw [HW.out]; unfold K.wayD
              rw [HLM.out, K.findK_some hkm (by rw [hlk]; exact he) (fun j hj => HNO.out j hj)])
            have hb : (a + d == n) = true := by rw [beq_iff_eq]; exact he
            clear he hlk
            go_wp2
            go_quiet (fail)
            go_wp2
            refine bodyPost_ret (?_ : (results _ _).run _ _ = .ok (.agg #[.int .i64 (m : Nat), .int .i64 (k : Nat)]) _) ?_ ?_
            · rw [results_cell_one rfl]
              obtain ⟨c0, c1⟩ := cells2 (W := w1.drewN (q2 + nq)) (g := w.heap.size) (x := .int .i64 (m : Nat)) (y := .int .i64 (k : Nat)) hk0 hk1
              generalize ((w1.drewN (q2 + nq)).setCell ⟨w.heap.size, 0, none⟩ (.int .i64 (m : Nat))).setCell ⟨w.heap.size, 1, none⟩ (.int .i64 (k : Nat)) = w3 at c0 c1 ⊢
              simp [go_sem, c0, c1]
            · rfl
            · rw [HN.out]; exact ⟨rfl, ((below_drewN HB.out (q2 + nq)).setCell (p := ⟨w.heap.size, 0, none⟩) (Nat.le_refl _) _).setCell (p := ⟨w.heap.size, 1, none⟩) (Nat.le_refl _) _⟩
          · have hb : (a + d == n) = false := by rw [beq_eq_false_iff_ne]; exact he
            have HN2 : Hid (∀ j, j < k + 1 → a + l.getD j 0 ≠ n) := hid fun j hj => by
              by_cases hjk : j = k
              · rw [hjk, hlk]; exact he
              · exact HNO.out j (by omega)
            clear he hlk
            go_wp2
            go_quiet (fail)
            go_wp2
            go_roundw
            case rel => exact ⟨k + 1, by omega, by go_num, HN2.out, _, rfl⟩
            case measure => simp [intOf]; omega
        · have hke : k = m + 1 := by omega
          subst hke
          have HN : Hid (K.way l n = K.wayD l n m) := hid (by
            rw [HW.out]; conv => lhs; unfold K.wayD
            rw [HLM.out, K.findK_none HNO.out])
          have hle : ¬ (((m + 1 : Nat) : Int) ≤ (m : Int)) := by omega
          go_wp2
          go_roundw
          case rel => exact ⟨m, by omega, by go_num, HN.out, _, rfl⟩
          case measure => simp [intOf]
end Go.Proofs.Ytffcnjcglfkbnaa
