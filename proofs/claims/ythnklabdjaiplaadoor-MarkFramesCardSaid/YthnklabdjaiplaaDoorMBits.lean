/- Package mark: arrays of sets of marks as values, what the model says of 'or', 'and' and '==' at them, and what they hold. -/
import Derived.Test.YthnklabdjaiplaaDoorMChk
import Derived.Laws.StructEq
import Derived.Laws.BitsLemmas
namespace Go.Proofs.YthnklabdjaiplaaDoor
open Go.RowKit

/-- An array of sets as a value, and as cells. -/
def M.av (s : Nat → Nat) : Value := .agg #[.int .i64 (s 0 : Nat), .int .i64 (s 1 : Nat), .int .i64 (s 2 : Nat), .int .i64 (s 3 : Nat), .int .i64 (s 4 : Nat), .int .i64 (s 5 : Nat), .int .i64 (s 6 : Nat), .int .i64 (s 7 : Nat)]
def M.ac (s : Nat → Nat) (i : Nat) : Value := .int .i64 (s i : Nat)

theorem M.av_congr {s u : Nat → Nat} (h : ∀ k, k < 8 → s k = u k) : M.av s = M.av u := by
  unfold M.av
  rw [h 0 (by omega), h 1 (by omega), h 2 (by omega), h 3 (by omega), h 4 (by omega), h 5 (by omega), h 6 (by omega), h 7 (by omega)]

theorem M.alt8 {k : Nat} (h : k < 8) : k = 0 ∨ k = 1 ∨ k = 2 ∨ k = 3 ∨ k = 4 ∨ k = 5 ∨ k = 6 ∨ k = 7 := by omega

theorem M.row8 (w : World) (s : Nat → Nat) : (w.alloc (.cells #[.int .i64 (s 0 : Nat), .int .i64 (s 1 : Nat), .int .i64 (s 2 : Nat), .int .i64 (s 3 : Nat), .int .i64 (s 4 : Nat), .int .i64 (s 5 : Nat), .int .i64 (s 6 : Nat), .int .i64 (s 7 : Nat)] 79)).rowIs w.heap.size 79 8 (M.ac s) :=
  World.rowIs_alloc w #[.int .i64 (s 0 : Nat), .int .i64 (s 1 : Nat), .int .i64 (s 2 : Nat), .int .i64 (s 3 : Nat), .int .i64 (s 4 : Nat), .int .i64 (s 5 : Nat), .int .i64 (s 6 : Nat), .int .i64 (s 7 : Nat)] 79 (M.ac s) (fun i hi => by
    rcases M.alt8 (show i < 8 from hi) with rfl | rfl | rfl | rfl | rfl | rfl | rfl | rfl <;> rfl)

/-- The eight cells, one by one. -/
structure M.C8 (w : World) (b : Nat) (s : Nat → Nat) : Prop where
  c0 : w.cell? ⟨b, 0, none⟩ = some (.int .i64 (s 0 : Nat))
  c1 : w.cell? ⟨b, 1, none⟩ = some (.int .i64 (s 1 : Nat))
  c2 : w.cell? ⟨b, 2, none⟩ = some (.int .i64 (s 2 : Nat))
  c3 : w.cell? ⟨b, 3, none⟩ = some (.int .i64 (s 3 : Nat))
  c4 : w.cell? ⟨b, 4, none⟩ = some (.int .i64 (s 4 : Nat))
  c5 : w.cell? ⟨b, 5, none⟩ = some (.int .i64 (s 5 : Nat))
  c6 : w.cell? ⟨b, 6, none⟩ = some (.int .i64 (s 6 : Nat))
  c7 : w.cell? ⟨b, 7, none⟩ = some (.int .i64 (s 7 : Nat))
structure M.F8 (w : World) (b : Nat) : Prop where
  f0 : w.frozen? ⟨b, 0, none⟩ = false
  f1 : w.frozen? ⟨b, 1, none⟩ = false
  f2 : w.frozen? ⟨b, 2, none⟩ = false
  f3 : w.frozen? ⟨b, 3, none⟩ = false
  f4 : w.frozen? ⟨b, 4, none⟩ = false
  f5 : w.frozen? ⟨b, 5, none⟩ = false
  f6 : w.frozen? ⟨b, 6, none⟩ = false
  f7 : w.frozen? ⟨b, 7, none⟩ = false
theorem M.c8 {w : World} {b : Nat} {s : Nat → Nat} (h : w.rowIs b 79 8 (M.ac s)) : M.C8 w b s :=
  ⟨h.cell (i := 0) (by omega), h.cell (i := 1) (by omega), h.cell (i := 2) (by omega), h.cell (i := 3) (by omega), h.cell (i := 4) (by omega), h.cell (i := 5) (by omega), h.cell (i := 6) (by omega), h.cell (i := 7) (by omega)⟩
theorem M.f8 {w : World} {b : Nat} {f : Nat → Value} (h : w.rowIs b 79 8 f) : M.F8 w b :=
  ⟨h.frozen 0, h.frozen 1, h.frozen 2, h.frozen 3, h.frozen 4, h.frozen 5, h.frozen 6, h.frozen 7⟩

/-- The whole array stored. -/
def M.put8 (w : World) (b : Nat) (s : Nat → Nat) : World :=
  (((((((w.setCell ⟨b, 0, none⟩ (.int .i64 (s 0 : Nat))).setCell ⟨b, 1, none⟩ (.int .i64 (s 1 : Nat))).setCell ⟨b, 2, none⟩ (.int .i64 (s 2 : Nat))).setCell ⟨b, 3, none⟩ (.int .i64 (s 3 : Nat))).setCell ⟨b, 4, none⟩ (.int .i64 (s 4 : Nat))).setCell ⟨b, 5, none⟩ (.int .i64 (s 5 : Nat))).setCell ⟨b, 6, none⟩ (.int .i64 (s 6 : Nat))).setCell ⟨b, 7, none⟩ (.int .i64 (s 7 : Nat))
theorem M.put8_row {w : World} {b : Nat} {f : Nat → Value} (h : w.rowIs b 79 8 f) (s : Nat → Nat) : (M.put8 w b s).rowIs b 79 8 (M.ac s) := by
  unfold M.put8
  refine ((((((((h.set 0 _).set 1 _).set 2 _).set 3 _).set 4 _).set 5 _).set 6 _).set 7 _).congr (fun i hi => ?_)
  rcases M.alt8 hi with rfl | rfl | rfl | rfl | rfl | rfl | rfl | rfl <;> simp [M.ac]
theorem M.put8_below {w a : World} {n b : Nat} (h : Below n a w) (hb : n ≤ b) (s : Nat → Nat) : Below n a (M.put8 w b s) :=
  (((((((h.setCell (p := ⟨b, 0, none⟩) hb _).setCell (p := ⟨b, 1, none⟩) hb _).setCell (p := ⟨b, 2, none⟩) hb _).setCell (p := ⟨b, 3, none⟩) hb _).setCell (p := ⟨b, 4, none⟩) hb _).setCell (p := ⟨b, 5, none⟩) hb _).setCell (p := ⟨b, 6, none⟩) hb _).setCell (p := ⟨b, 7, none⟩) hb _
theorem M.put8_other {w : World} {b c : Nat} (hne : c ≠ b) (s : Nat → Nat) : (M.put8 w b s).heap[c]? = w.heap[c]? := by
  unfold M.put8
  simp only [Below.heap_setCell _ _ _ c (show c ≠ (⟨b, _, none⟩ : Addr).block from hne)]
theorem M.put8_size (w : World) (b : Nat) (s : Nat → Nat) : (M.put8 w b s).heap.size = w.heap.size := by simp [M.put8, World.setCell]

/-- Are two arrays of sets equal? -/
def M.eq8 (s u : Nat → Nat) : Bool := (List.range 8).all fun k => s k == u k
theorem M.eq8_iff {s u : Nat → Nat} : M.eq8 s u = true ↔ ∀ k, k < 8 → s k = u k := by simp [M.eq8, List.all_eq_true]

set_option maxHeartbeats 1000000 in
theorem M.eql (s u : Nat → Nat) (w : World) : (binOp .eql 79 (M.av s) (M.av u)).run Tryd.prog w = .ok (.bool (M.eq8 s u)) w := by
  have ui : Tryd.prog.underlying 3 = some (.int .i64) := Tryd.underlying3
  have ua : Tryd.prog.underlying 79 = some (.array 8 3) := Tryd.underlying79
  have hs : ∀ w, (sizeOf 3).run Tryd.prog w = .ok 1 w := fun w => by kernel_rfl
  have hp : ∀ (x : Nat → Nat) (k : Nat), k < 8 → ∀ w, (part 3 #[.int .i64 (x 0 : Nat), .int .i64 (x 1 : Nat), .int .i64 (x 2 : Nat), .int .i64 (x 3 : Nat), .int .i64 (x 4 : Nat), .int .i64 (x 5 : Nat), .int .i64 (x 6 : Nat), .int .i64 (x 7 : Nat)] k).run Tryd.prog w = .ok (.int .i64 (x k : Nat)) w := fun x k hk w => by
    rcases M.alt8 hk with rfl | rfl | rfl | rfl | rfl | rfl | rfl | rfl <;> kernel_rfl
  have he : ∀ (a b : Nat) w, (Op.equalIn 9999 3 (.int .i64 (a : Nat)) (.int .i64 (b : Nat))).run Tryd.prog w = .ok ((a : Int) == (b : Int)) w := fun a b w => run_equalIn_int w 9998 _ .i64 .i64 _ _ ui
  unfold M.av
  rw [run_eql_struct]
  have main : (Op.equalIn 10000 79 (.agg #[.int .i64 (s 0 : Nat), .int .i64 (s 1 : Nat), .int .i64 (s 2 : Nat), .int .i64 (s 3 : Nat), .int .i64 (s 4 : Nat), .int .i64 (s 5 : Nat), .int .i64 (s 6 : Nat), .int .i64 (s 7 : Nat)]) (.agg #[.int .i64 (u 0 : Nat), .int .i64 (u 1 : Nat), .int .i64 (u 2 : Nat), .int .i64 (u 3 : Nat), .int .i64 (u 4 : Nat), .int .i64 (u 5 : Nat), .int .i64 (u 6 : Nat), .int .i64 (u 7 : Nat)])).run Tryd.prog w = .ok (M.eq8 s u) w := by
    rw [show (10000 : Nat) = 9999 + 1 from rfl, Op.equalIn]
    simp only [Sem.run_bind, run_underlying ua, Result.andThen_ok, hs]
    rw [Std.Legacy.Range.forIn_eq_forIn_range']
    simp only [Std.Legacy.Range.size, Nat.sub_zero, Nat.reduceAdd, Nat.reduceSub, Nat.div_one, List.range', List.forIn_cons, List.forIn_nil, Nat.mul_one, Sem.run_bind, hp s 0 (by omega),
      hp u 0 (by omega), Result.andThen_ok, he]
    have hall : M.eq8 s u = (((s 0 : Int) == (u 0 : Int)) && (((s 1 : Int) == (u 1 : Int)) && (((s 2 : Int) == (u 2 : Int)) && (((s 3 : Int) == (u 3 : Int)) && (((s 4 : Int) == (u 4 : Int)) && (((s 5 : Int) == (u 5 : Int)) && (((s 6 : Int) == (u 6 : Int)) && ((s 7 : Int) == (u 7 : Int))))))))) := by
      rw [Bool.eq_iff_iff, M.eq8_iff]
      simp only [Bool.and_eq_true, beq_iff_eq]
      constructor
      · intro h
        have h0 := h 0 (by omega); have h1 := h 1 (by omega); have h2 := h 2 (by omega); have h3 := h 3 (by omega)
        have h4 := h 4 (by omega); have h5 := h 5 (by omega); have h6 := h 6 (by omega); have h7 := h 7 (by omega)
        refine ⟨?_, ?_, ?_, ?_, ?_, ?_, ?_, ?_⟩ <;> omega
      · rintro ⟨h0, h1, h2, h3, h4, h5, h6, h7⟩ k hk
        rcases M.alt8 hk with rfl | rfl | rfl | rfl | rfl | rfl | rfl | rfl <;> omega
    rw [hall]
    clear hall
    cases ((s 0 : Int) == (u 0 : Int))
    · simp only [Bool.not_false, if_true, Sem.run_pure, Result.andThen_ok, Bool.false_and]
    simp only [Bool.not_true, Bool.false_eq_true, if_false, Sem.run_pure, Sem.run_bind, Result.andThen_ok, Bool.true_and, hp s 1 (by omega),
      hp u 1 (by omega), he]
    cases ((s 1 : Int) == (u 1 : Int))
    · simp only [Bool.not_false, if_true, Sem.run_pure, Result.andThen_ok, Bool.false_and]
    simp only [Bool.not_true, Bool.false_eq_true, if_false, Sem.run_pure, Sem.run_bind, Result.andThen_ok, Bool.true_and, hp s 2 (by omega),
      hp u 2 (by omega), he]
    cases ((s 2 : Int) == (u 2 : Int))
    · simp only [Bool.not_false, if_true, Sem.run_pure, Result.andThen_ok, Bool.false_and]
    simp only [Bool.not_true, Bool.false_eq_true, if_false, Sem.run_pure, Sem.run_bind, Result.andThen_ok, Bool.true_and, hp s 3 (by omega),
      hp u 3 (by omega), he]
    cases ((s 3 : Int) == (u 3 : Int))
    · simp only [Bool.not_false, if_true, Sem.run_pure, Result.andThen_ok, Bool.false_and]
    simp only [Bool.not_true, Bool.false_eq_true, if_false, Sem.run_pure, Sem.run_bind, Result.andThen_ok, Bool.true_and, hp s 4 (by omega),
      hp u 4 (by omega), he]
    cases ((s 4 : Int) == (u 4 : Int))
    · simp only [Bool.not_false, if_true, Sem.run_pure, Result.andThen_ok, Bool.false_and]
    simp only [Bool.not_true, Bool.false_eq_true, if_false, Sem.run_pure, Sem.run_bind, Result.andThen_ok, Bool.true_and, hp s 5 (by omega),
      hp u 5 (by omega), he]
    cases ((s 5 : Int) == (u 5 : Int))
    · simp only [Bool.not_false, if_true, Sem.run_pure, Result.andThen_ok, Bool.false_and]
    simp only [Bool.not_true, Bool.false_eq_true, if_false, Sem.run_pure, Sem.run_bind, Result.andThen_ok, Bool.true_and, hp s 6 (by omega),
      hp u 6 (by omega), he]
    cases ((s 6 : Int) == (u 6 : Int))
    · simp only [Bool.not_false, if_true, Sem.run_pure, Result.andThen_ok, Bool.false_and]
    simp only [Bool.not_true, Bool.false_eq_true, if_false, Sem.run_pure, Sem.run_bind, Result.andThen_ok, Bool.true_and, hp s 7 (by omega),
      hp u 7 (by omega), he]
    cases ((s 7 : Int) == (u 7 : Int))
    · simp only [Bool.not_false, if_true, Sem.run_pure, Result.andThen_ok]
    simp only [Bool.not_true, Bool.false_eq_true, if_false, Sem.run_pure, Result.andThen_ok]
  rw [main]
  rfl

/-- 'or' and 'and' at small sets. -/
theorem M.wraps (n : Int) (h0 : 0 ≤ n) (h1 : n < 2 ^ 62) : IntKind.i64.wrap n = n := by rw [IntKind.wrap_i64]; omega
theorem M.bor (a b : Nat) (ha : a < 16) (hb : b < 16) : bits .or .i64 (a : Int) (b : Int) = ((a ||| b : Nat) : Int) :=
  (bits_nat .i64 62 (by decide) M.wraps a b (by omega) (by omega)).2
theorem M.band (a b : Nat) (ha : a < 16) (hb : b < 16) : bits .and .i64 (a : Int) (b : Int) = ((a &&& b : Nat) : Int) :=
  (bits_nat .i64 62 (by decide) M.wraps a b (by omega) (by omega)).1

/-- The first k sets with the marks of a word more. -/
def M.wth (s : Nat → Nat) (l : List Int) (k : Nat) (j : Nat) : Nat := if j < k then s j ||| 2 ^ (l.getD j 0).toNat else s j

theorem M.or_eq {s m : Nat} : s ||| 2 ^ m = s ↔ s.testBit m = true := by
  constructor
  · intro h
    rw [← h, Nat.testBit_or, Nat.testBit_two_pow_self, Bool.or_true]
  · intro h
    apply Nat.eq_of_testBit_eq
    intro i
    rw [Nat.testBit_or, Nat.testBit_two_pow]
    by_cases e : m = i
    · subst e; simp [h]
    · simp [e]

/-- What a coalition has. -/
def M.so (T : List (List Int)) (l : List Int) (j : Nat) : Nat := l.foldl (fun s i => M.wth s (T.getD i.toNat []) (M.pl T)) (fun _ => 0) j

theorem M.so_take {T : List (List Int)} {l : List Int} {k : Nat} (h : k < l.length) : M.so T (l.take (k + 1)) = M.wth (M.so T (l.take k)) (T.getD (l.getD k 0).toNat []) (M.pl T) := by
  have e : l.getD k 0 = l[k] := by rw [List.getD_eq_getElem?_getD, List.getElem?_eq_getElem h]; rfl
  funext j
  unfold M.so
  rw [List.take_succ_eq_append_getElem h, List.foldl_append, e]
  rfl

theorem M.foldr_bit {T : List (List Int)} (p : Nat) (l : List Int) (s : Nat → Nat) (j m : Nat) :
    (l.foldl (fun s i => M.wth s (T.getD i.toNat []) p) s j).testBit m = true ↔ (s j).testBit m = true ∨ (j < p ∧ ∃ i, i ∈ l ∧ (M.mk T i j).toNat = m) := by
  induction l generalizing s with
  | nil => simp
  | cons x l ih =>
    rw [List.foldl_cons, ih]
    unfold M.wth
    by_cases hj : j < p
    · simp only [hj, if_true, true_and, Nat.testBit_or, Nat.testBit_two_pow, Bool.or_eq_true, decide_eq_true_eq, List.mem_cons, exists_eq_or_imp]
      unfold M.mk
      constructor
      · rintro ((h | h) | h)
        · exact .inl h
        · exact .inr (.inl h)
        · exact .inr (.inr h)
      · rintro (h | h | h)
        · exact .inl (.inl h)
        · exact .inl (.inr h)
        · exact .inr h
    · simp [hj]

theorem M.so_bit {T : List (List Int)} {l : List Int} {j m : Nat} : (M.so T l j).testBit m = true ↔ j < M.pl T ∧ ∃ i, i ∈ l ∧ (M.mk T i j).toNat = m := by
  unfold M.so
  rw [M.foldr_bit]
  simp

theorem M.so_lt {m : Int} {T : List (List Int)} (h : M.Ok m T) {l : List Int} (hl : ∀ i, i ∈ l → 0 ≤ i ∧ i < T.length) (j : Nat) : M.so T l j < 16 := by
  apply Nat.lt_pow_two_of_testBit (n := 4)
  intro i hi
  cases hb : (M.so T l j).testBit i with
  | false => rfl
  | true =>
    obtain ⟨hj, x, hx, he⟩ := M.so_bit.1 hb
    have h1 := hl x hx
    have h2 := h.rng x.toNat j (by omega) hj
    have := h.m4
    unfold M.mk at he
    omega

/-- A coalition can make a word just if the word adds nothing. -/
theorem M.can_so {m : Int} {T : List (List Int)} (h : M.Ok m T) {l w : List Int} (hl : ∀ i, i ∈ l → 0 ≤ i ∧ i < T.length) (hw : w.length = M.pl T) (hwm : ∀ k, k < M.pl T → 0 ≤ w.getD k 0 ∧ w.getD k 0 < m) :
    M.eq8 (M.wth (M.so T l) w (M.pl T)) (M.so T l) = M.can T l w := by
  rw [Bool.eq_iff_iff, M.eq8_iff, M.can_iff, hw]
  have hp8 := h.p8
  constructor
  · intro h1 k hk
    have h2 := h1 k (by omega)
    unfold M.wth at h2
    rw [if_pos hk, M.or_eq, M.so_bit] at h2
    obtain ⟨_, i, hi, he⟩ := h2
    refine ⟨i, hi, ?_⟩
    have h3 := hl i hi
    have h4 := h.rng i.toNat k (by omega) hk
    have h5 := hwm k hk
    unfold M.mk at *
    omega
  · intro h1 k hk
    unfold M.wth
    by_cases hkp : k < M.pl T
    · rw [if_pos hkp, M.or_eq, M.so_bit]
      obtain ⟨i, hi, he⟩ := h1 k hkp
      exact ⟨hkp, i, hi, by rw [he]⟩
    · rw [if_neg hkp]
end Go.Proofs.YthnklabdjaiplaaDoor
