/- Package tuschelaw08: RepeatFine's closure; what is selected, piece by piece; arguments by value. -/
import Derived.Test.YtiodcgdjphmffaaBPer
import Derived.Test.YtiodcgdjphmffaaBOpen
namespace Go.Proofs.Ytiodcgdjphmffaa
open Go.ChangeShapes Go.WideShapes Go.RowKit Go.Deep

theorem B.sel_in {f : Nat → Bool} : ∀ {n : Nat} {y : Int}, y ∈ B.sel f n ↔ ∃ x : Nat, y = x ∧ 1 ≤ x ∧ x ≤ n ∧ f x = true
  | 0, y => ⟨fun h => (by cases h), fun ⟨x, _, h1, h2, _⟩ => (by omega)⟩
  | n + 1, y => by
    have ih := B.sel_in (f := f) (n := n) (y := y)
    cases hc : f (n + 1) with
    | true =>
      rw [B.sel_hit hc, List.mem_append, ih, List.mem_singleton]
      constructor
      · rintro (⟨x, h1, h2, h3, h4⟩ | rfl)
        · exact ⟨x, h1, h2, by omega, h4⟩
        · exact ⟨n + 1, rfl, by omega, Nat.le_refl _, hc⟩
      · rintro ⟨x, rfl, h2, h3, h4⟩
        by_cases e : x = n + 1
        · right; rw [e]
        · left; exact ⟨x, rfl, h2, by omega, h4⟩
    | false =>
      rw [B.sel_miss hc, ih]
      constructor
      · rintro ⟨x, h1, h2, h3, h4⟩
        exact ⟨x, h1, h2, by omega, h4⟩
      · rintro ⟨x, rfl, h2, h3, h4⟩
        have : x ≠ n + 1 := fun e => by rw [e, hc] at h4; cases h4
        exact ⟨x, rfl, h2, by omega, h4⟩
/-- What is selected up to a number, and behind it. -/
theorem B.sel_split (f : Nat → Bool) (x : Nat) : ∀ d, ∃ R : List Int, B.sel f (x + d) = B.sel f x ++ R ∧ ∀ y ∈ R, (x : Int) < y
  | 0 => ⟨[], by simp, fun y h => by cases h⟩
  | d + 1 => by
    obtain ⟨R, h1, h2⟩ := B.sel_split f x d
    cases hc : f (x + d + 1) with
    | true =>
      refine ⟨R ++ [((x + d + 1 : Nat) : Int)], ?_, fun y hy => ?_⟩
      · rw [← Nat.add_assoc, B.sel_hit hc, h1, List.append_assoc]
      · rcases List.mem_append.1 hy with h | h
        · exact h2 y h
        · rw [List.mem_singleton] at h; omega
    | false => exact ⟨R, by rw [← Nat.add_assoc, B.sel_miss hc, h1], h2⟩
theorem B.sel_at {f : Nat → Bool} {n x : Nat} (h : x < n) (hf : f (x + 1) = true) : (B.sel f n)[(B.sel f x).length]? = some ((x + 1 : Nat) : Int) ∧ (B.sel f (x + 1)).length = (B.sel f x).length + 1 := by
  obtain ⟨R, h1, _⟩ := B.sel_split f (x + 1) (n - (x + 1))
  rw [show x + 1 + (n - (x + 1)) = n by omega] at h1
  rw [h1, B.sel_hit hf, List.append_assoc]
  simp
theorem B.sel_not {f : Nat → Bool} {n x : Nat} (h : x < n) (hf : f (x + 1) = false) : (∀ v, (B.sel f n)[(B.sel f x).length]? = some v → v ≠ ((x + 1 : Nat) : Int)) ∧ (B.sel f (x + 1)).length = (B.sel f x).length := by
  obtain ⟨R, h1, h2⟩ := B.sel_split f (x + 1) (n - (x + 1))
  rw [show x + 1 + (n - (x + 1)) = n by omega] at h1
  rw [h1, B.sel_miss hf]
  refine ⟨fun v hv e => ?_, rfl⟩
  rw [List.getElem?_append_right (Nat.le_refl _), Nat.sub_self] at hv
  have := h2 v (List.mem_of_getElem? hv)
  rw [e] at this
  omega

set_option maxHeartbeats 1000000 in
set_option maxRecDepth 100000 in
/-- Is a number in a list? -/
theorem has_any (bc : Nat) (a : Option Addr) (c : Nat) (L : List Int) (x : Int) (w : World) (hl : L.length ≤ 1000) (hc : w.cell? ⟨bc, 0, none⟩ = some (.slice a L.length c)) (hr : RdI w a L) :
    Calls Try.prog 39 #[.int .i64 x, .pointer (some ⟨bc, 0, none⟩)] w fun e w' => e = .returned (.bool (decide (x ∈ L))) ∧ w' = w := by
  have HR := hid hr; clear hr
  go_enter Try.func39, Try.ntmps39
  go_wp2
  clear hc
  go_loop [8] (fun y => ∃ j : Nat, j ≤ L.length ∧ y = .int .i64 j ∧ Hid (∀ i (h : i < L.length), i < j → L[i] ≠ x)) (fun y => L.length - (intOf y).toNat)
  case atStart => exact ⟨0, Nat.zero_le _, rfl, hid (fun i _ h => absurd h (Nat.not_lt_zero _))⟩
  case round =>
    obtain ⟨j, hj, rfl, HN⟩ := hrel
    by_cases hlt : j < L.length
    · obtain ⟨b, off, rfl, hcell⟩ := HR.out j hlt
      have hix : (0 : Int) ≤ (j : Int) ∧ (j : Int) < (L.length : Int) := by omega
      have HLJ := hid (List.getElem_mem hlt)
      have HLE : Hid (∃ v, L[j] = v) := hid ⟨_, rfl⟩
      obtain ⟨v, hv⟩ := HLE.out
      rw [hv] at hcell HLJ
      have HV := hid hv
      clear hv HLE
      by_cases he : x = v
      · have he' : (x == v) = true := by simpa using he
        have HF : Hid (decide (x ∈ L) = true) := hid (by rw [decide_eq_true_eq, he]; exact HLJ.out)
        clear he
        go_wp2
        go_ret
        exact ⟨by rw [HF.out]; rfl, rfl⟩
      · have he' : (x == v) = false := by simpa using he
        have HN2 : Hid (∀ i (h : i < L.length), i < j + 1 → L[i] ≠ x) := hid (fun i h hi => by
          by_cases e : i = j
          · subst e; rw [HV.out]; exact fun h => he h.symm
          · exact HN.out i h (by omega))
        clear he
        go_wp2
        go_round
        case rel => exact ⟨j + 1, by omega, by go_num, HN2⟩
        case measure => simp [intOf]; omega
    · have hje : j = L.length := by omega
      subst hje
      have HF : Hid (decide (x ∈ L) = false) := hid (by
        rw [decide_eq_false_iff_not]
        intro h
        obtain ⟨i, hi, e⟩ := List.getElem_of_mem h
        exact HN.out i hi hi e)
      go_wp2
      go_ret
      exact ⟨by rw [HF.out]; rfl, rfl⟩

/-- Numbers of one byte, one behind the other, by value. -/
def cells8 (f : Nat → Nat) (n : Nat) : List Value := (List.range n).map fun k => .int .u8 (f k : Nat)
def arr8 (f : Nat → Nat) (n : Nat) : Value := .agg (cells8 f n).toArray
/-- A block that holds them. -/
def Box8 (w : World) (b n : Nat) (f : Nat → Nat) : Prop := ∀ k, k < n → w.cell? ⟨b, k, none⟩ = some (.int .u8 (f k : Nat))
theorem box8 (f : Nat → Nat) (n : Nat) (t : TypeId) (w : World) : Box8 (w.alloc (.cells (cells8 f n).toArray t)) w.heap.size n f := by
  intro k hk
  rw [World.cell?_alloc_at _ _ _ _ rfl]
  simp [cells8, hk]
theorem Box8.stays {w w' : World} {b n : Nat} {f : Nat → Nat} (h : Box8 w b n f) (hb : Below w.heap.size w w') : Box8 w' b n f := fun k hk => cell_stays hb (Nat.le_refl _) (h k hk)

section
variable {H : Type} {enc : TypeId × Value → H} {P : Program} {w : World} {base : Nat} {spare : Nat → Bool} {held : Bool}
/-- One number of one cell. -/
theorem u8_at {t : TypeId} {fuel : Nat} {cs : List Value} {i : Nat} {x : DataW H × List MemPlace} (ht : P.underlying t = some (.int .u8)) (h : DataW.trod enc P w base spare held fuel t ((cs.drop i).take 1) = some x) :
    ∃ m : Nat, m < 256 ∧ cs[i]? = some (.int .u8 m) := by
  obtain ⟨n, he, _, hw⟩ := DataW.trod_int ht h
  have hb : 0 ≤ n ∧ n < 256 := by
    have h1 : IntKind.u8.min = 0 := rfl
    have h2 : IntKind.u8.max = 255 := rfl
    simp only [Lit.wf, Bool.and_eq_true, decide_eq_true_eq] at hw
    omega
  refine ⟨n.toNat, by omega, ?_⟩
  have e : (n.toNat : Int) = n := by omega
  rw [e]
  have h0 : ((cs.drop i).take 1)[0]? = some (.int .u8 n) := by rw [he]; rfl
  simpa using h0
/-- An array of numbers of one cell. -/
theorem u8s_at {t e : TypeId} {n fuel : Nat} {cs : List Value} {x : DataW H × List MemPlace} (ht : P.underlying t = some (.array n e)) (he : P.underlying e = some (.int .u8)) (hc : P.cellsOf e = 1) (h : DataW.trod enc P w base spare held fuel t cs = some x) :
    ∀ i, i < n → ∃ m : Nat, m < 256 ∧ cs[i]? = some (.int .u8 m) := fun i hi => by
  obtain ⟨xs, m, _, _, _, hl, hat⟩ := DataW.trod_array ht h
  have h1 := hat i hi
  rw [hc, Nat.mul_one, List.getElem?_eq_getElem (show i < xs.length by omega)] at h1
  exact u8_at he h1
end
theorem arr8_of {l : List Value} {n : Nat} (hl : l.length = n) (all : ∀ i, i < n → ∃ m : Nat, m < 256 ∧ l[i]? = some (.int .u8 m)) : ∃ f : Nat → Nat, Value.agg ⟨l⟩ = arr8 f n ∧ ∀ k, f k < 256 := by
  have h : ∀ i, ∃ m : Nat, m < 256 ∧ (i < n → l[i]? = some (.int .u8 m)) := fun i => by
    by_cases hi : i < n
    · obtain ⟨m, hm, hc⟩ := all i hi
      exact ⟨m, hm, fun _ => hc⟩
    · exact ⟨0, by omega, fun h => absurd h hi⟩
  obtain ⟨f, hf⟩ := Classical.axiomOfChoice h
  refine ⟨f, ?_, fun k => (hf k).1⟩
  have e : l = cells8 f n := by
    apply List.ext_getElem?
    intro i
    by_cases hi : i < n
    · rw [(hf i).2 hi]; simp [cells8, hi]
    · rw [List.getElem?_eq_none (by omega), List.getElem?_eq_none (by simp [cells8]; omega)]
  unfold arr8
  rw [← e]
theorem open_A3 {H : Type} {enc : TypeId × Value → H} {W : World} {r : Reach} {b0 : Nat} {v : Value} {d : DataW H} {ps : List MemPlace} (hv : Value.okWide Try.prog W r b0 44 v)
    (h : DataW.Trod enc Try.prog W 0 (fun _ => true) true 44 v d ps) : ∃ f : Nat → Nat, v = arr8 f 3 ∧ ∀ k, f k < 256 := by
  simp only [Value.okWide, Try.underlying44] at hv
  obtain ⟨cs, rfl, hsz, _⟩ := hv
  obtain ⟨fuel, hf⟩ := h
  have k8 : Try.prog.cellsOf 5 = 1 := by kernel_rfl
  have k5 : Try.prog.cellsOf 44 = 3 := by kernel_rfl
  obtain ⟨l⟩ := cs
  rw [k5] at hsz
  have hll : l.length = 3 := by simpa using hsz
  exact arr8_of hll (fun i hi => u8s_at (cs := l) Try.underlying44 Try.underlying5 k8 hf i hi)
theorem open_A24 {H : Type} {enc : TypeId × Value → H} {W : World} {r : Reach} {b0 : Nat} {v : Value} {d : DataW H} {ps : List MemPlace} (hv : Value.okWide Try.prog W r b0 45 v)
    (h : DataW.Trod enc Try.prog W 0 (fun _ => true) true 45 v d ps) : ∃ f : Nat → Nat, v = arr8 f 24 ∧ ∀ k, f k < 256 := by
  simp only [Value.okWide, Try.underlying45] at hv
  obtain ⟨cs, rfl, hsz, _⟩ := hv
  obtain ⟨fuel, hf⟩ := h
  have k8 : Try.prog.cellsOf 5 = 1 := by kernel_rfl
  have k5 : Try.prog.cellsOf 45 = 24 := by kernel_rfl
  obtain ⟨l⟩ := cs
  rw [k5] at hsz
  have hll : l.length = 24 := by simpa using hsz
  exact arr8_of hll (fun i hi => u8s_at (cs := l) Try.underlying45 Try.underlying5 k8 hf i hi)
end Go.Proofs.Ytiodcgdjphmffaa
