/- Package cross: the walk of search. -/
import Derived.Test.YthaoacnaeafbeaaXClr
import Derived.ScopeJumps
import Derived.WalkMore
namespace Go.Proofs.Ythaoacnaeafbeaa
open Go.RowKit

/-- The first rule that fits and begins with pre, with the next cross from place on; f places are left. -/
def X.find (ft : List Int → Bool) (n : Nat) : Nat → List Int → Nat → Option (List Int)
  | 0, pre, _ => if pre.length = n then some pre else none
  | f + 1, pre, place => if pre.length = n then some pre else if ft (pre ++ [(place : Int)]) = true then (X.find ft n f (pre ++ [(place : Int)]) (place + 1)).or (X.find ft n f pre (place + 1)) else X.find ft n f pre (place + 1)
/-- What the search goes back to: the crosses in reverse order. -/
def X.kon (ft : List Int → Bool) (n most : Nat) : List Int → Option (List Int)
  | [] => none
  | q :: r => if r = [] then none else (X.find ft n (most - q.toNat) r.reverse (q.toNat + 1)).or (X.kon ft n most r)
def X.ws (most : Nat) : List Int → Nat
  | [] => 0
  | q :: r => if r = [] then 0 else 3 ^ (most - q.toNat) + X.ws most r
theorem X.find_full {ft : List Int → Bool} {n : Nat} {pre : List Int} (h : pre.length = n) : ∀ f place, X.find ft n f pre place = some pre
  | 0, _ => by unfold X.find; rw [if_pos h]
  | f + 1, _ => by unfold X.find; rw [if_pos h]
theorem X.find_step {ft : List Int → Bool} {n most p : Nat} {pre : List Int} (h : pre.length ≠ n) (hp : p ≤ most) :
    X.find ft n (most + 1 - p) pre p = if ft (pre ++ [(p : Int)]) = true then (X.find ft n (most - p) (pre ++ [(p : Int)]) (p + 1)).or (X.find ft n (most - p) pre (p + 1)) else X.find ft n (most - p) pre (p + 1) := by
  rw [show most + 1 - p = (most - p) + 1 by omega]
  conv => lhs; unfold X.find
  rw [if_neg h]
theorem X.pow3 {a b : Nat} (h : a < b) : 3 * 3 ^ a ≤ 3 ^ b := by
  obtain ⟨c, rfl⟩ : ∃ c, b = a + 1 + c := ⟨b - (a + 1), by omega⟩
  rw [Nat.pow_add, Nat.pow_succ]
  have : 1 ≤ 3 ^ c := Nat.pow_pos (by omega)
  calc 3 * 3 ^ a = 3 ^ a * 3 * 1 := by omega
    _ ≤ 3 ^ a * 3 * 3 ^ c := Nat.mul_le_mul_left _ this

/-- The least number with a property. -/
theorem X.least_ex {P : Nat → Prop} (h : ∃ g, P g) : ∃ g, P g ∧ ∀ k, P k → g ≤ k := by
  obtain ⟨g, hg⟩ := h
  induction g using Nat.strongRecOn with
  | _ g ih =>
    by_cases h : ∃ k, k < g ∧ P k
    · obtain ⟨k, h1, h2⟩ := h
      exact ih k h1 h2
    · exact ⟨g, hg, fun k hk => Nat.le_of_not_lt fun hlt => h ⟨k, hlt, hk⟩⟩
noncomputable def X.least (P : Nat → Prop) : Nat := open Classical in if h : ∃ g, P g then Classical.choose (X.least_ex h) else 0
theorem X.least_of {P : Nat → Prop} (h : ∃ g, P g) : P (X.least P) := by
  unfold X.least; rw [dif_pos h]; exact (Classical.choose_spec (X.least_ex h)).1
theorem X.least_le {P : Nat → Prop} {g : Nat} (h : P g) : X.least P ≤ g := by
  unfold X.least; rw [dif_pos ⟨g, h⟩]; exact (Classical.choose_spec (X.least_ex ⟨g, h⟩)).2 g h
/-- A scope with a label that is jumped to, with a ghost that each pass lowers. -/
theorem X.jumps {P : Program} {a : Act} {w : World} {Q : Exit → Act → World → Prop} {c rest : Code} (l : Nat) (J : Nat → Act → World → Prop) (hf : findLabel c l = some rest)
    (first : c.wp P (Exit.jump l (fun a w => ∃ g, J g a w) Q) a w)
    (pass : ∀ g a w, J g a w → rest.wp P (Exit.jump l (fun a' w' => ∃ g', g' < g ∧ J g' a' w') Q) a w) : (Code.scope c).wp P Q a w := by
  refine wp_scope_jumps l (fun a w => ∃ g, J g a w) (fun a w => X.least fun g => J g a w) hf first ?_
  intro a w h
  refine Code.wp_mono ?_ (pass (X.least fun g => J g a w) a w (X.least_of h))
  intro e a' w' hq
  cases e with
  | goto l' =>
    obtain ⟨h1, g', h2, h3⟩ := hq
    exact ⟨h1, ⟨g', h3⟩, Nat.lt_of_le_of_lt (X.least_le (P := fun g => J g a' w') h3) h2⟩
  | _ => exact hq

theorem X.jumps2 {P : Program} {a : Act} {w : World} {Q : Exit → Act → World → Prop} {c rest : Code} (l : Nat) (J : Nat → Act → World → Prop) (hf : findLabel c l = some (.seq .skip rest)) (a0 : Act) (w0 : World) (h0 : ∃ g, J g a0 w0)
    (first : ∀ Q', rest.wp P Q' a0 w0 → c.wp P Q' a w)
    (pass : ∀ g a w, J g a w → rest.wp P (Exit.jump l (fun a' w' => ∃ g', g' < g ∧ J g' a' w') Q) a w) : (Code.scope c).wp P Q a w := by
  obtain ⟨g0, h0⟩ := h0
  refine X.jumps l J hf (first _ (Code.wp_mono ?_ (pass g0 a0 w0 h0))) (fun g a w h => wp_seq (wp_skip (pass g a w h)))
  intro e a' w' hq
  cases e with
  | goto l' =>
    obtain ⟨h1, g', _, h3⟩ := hq
    exact ⟨h1, g', h3⟩
  | _ => exact hq
/-- The state of the search. -/
structure X.SR (ft : List Int → Bool) (n most : Nat) (RES : Option (List Int)) (w : World) (g d p : Nat) (R : List Int) (W : World) : Prop where
  row : W.rowIs w.heap.size 3 n (fun j => .int .i64 (R.getD j 0))
  below : Below w.heap.size w W
  len : R.length = n
  d1 : 1 ≤ d
  dn : d ≤ n
  pm : p ≤ most + 1
  lo : ∀ i, i < d → 0 ≤ R.getD i 0
  hi : ∀ i, i < d → R.getD i 0 < p
  up : ∀ i k, i < k → k < d → R.getD i 0 < R.getD k 0
  res : (X.find ft n (most + 1 - p) (R.take d) p).or (X.kon ft n most (R.take d).reverse) = RES
  wt : 3 ^ (most + 1 - p) + X.ws most (R.take d).reverse ≤ g
theorem X.take_len {R : List Int} {n d : Nat} (h : R.length = n) (hd : d ≤ n) : (R.take d).length = d := by rw [List.length_take]; omega
theorem X.set_take {R : List Int} {d : Nat} {x : Int} (h : d < R.length) : (R.set d x).take (d + 1) = R.take d ++ [x] := by
  rw [List.take_succ_eq_append_getElem (by simpa using h), List.take_set_of_le (Nat.le_refl _)]
  simp
theorem X.rev_ne {R : List Int} {n d : Nat} (h : R.length = n) (h1 : 1 ≤ d) (hd : d ≤ n) : (R.take d).reverse ≠ [] := fun e => by
  have := congrArg List.length e
  rw [List.length_reverse, X.take_len h hd] at this
  simp at this; omega
section
variable {ft : List Int → Bool} {n most : Nat} {RES : Option (List Int)} {w : World} {g d p : Nat} {R : List Int} {W W' : World}
/-- A place is written, and is taken. -/
theorem X.SR.yes (h : X.SR ft n most RES w g d p R W) (hd : d < n) (hp : p ≤ most) (hf : ft (R.take d ++ [(p : Int)]) = true) (hr : W'.rowIs w.heap.size 3 n (fun j => .int .i64 ((R.set d (p : Int)).getD j 0))) (hb : Below w.heap.size w W') : X.SR ft n most RES w g (d + 1) (p + 1) (R.set d (p : Int)) W' := by
  have hlen := h.len
  have hg : ∀ i, (R.set d (p : Int)).getD i 0 = if i = d then (p : Int) else R.getD i 0 := fun i => by
    simp only [List.getD_eq_getElem?_getD, List.getElem?_set]
    by_cases e : d = i
    · rw [if_pos e, if_pos e.symm, if_pos (by omega)]; rfl
    · rw [if_neg e, if_neg (fun x => e x.symm)]
  have hp3 := X.pow3 (show most - p < most + 1 - p by omega)
  have hwt := h.wt
  refine ⟨hr, hb, by simpa using hlen, by omega, by omega, by omega, fun i hi => ?_, fun i hi => ?_, fun i k h1 h2 => ?_, ?_, ?_⟩
  · rw [hg]; split
    · omega
    · exact h.lo i (by omega)
  · rw [hg]; split
    · omega
    · have := h.hi i (by omega); omega
  · rw [hg, hg, if_neg (by omega)]
    split
    · exact h.hi i (by omega)
    · exact h.up i k h1 (by omega)
  · rw [X.set_take (by omega), List.reverse_append, ← h.res, X.find_step (by rw [X.take_len hlen (by omega)]; omega) hp, if_pos hf]
    show (X.find ft n (most + 1 - (p + 1)) (R.take d ++ [(p : Int)]) (p + 1)).or (X.kon ft n most ((p : Int) :: (R.take d).reverse)) = _
    conv => lhs; unfold X.kon
    rw [if_neg (X.rev_ne hlen h.d1 h.dn), List.reverse_reverse, Int.toNat_natCast, Option.or_assoc, show most + 1 - (p + 1) = most - p by omega]
  · rw [X.set_take (by omega), List.reverse_append]
    show _ + X.ws most ((p : Int) :: (R.take d).reverse) ≤ g
    conv => lhs; unfold X.ws
    rw [if_neg (X.rev_ne hlen h.d1 h.dn), Int.toNat_natCast, show most + 1 - (p + 1) = most - p by omega]
    omega
/-- A place is written, and is not taken. -/
theorem X.SR.no (h : X.SR ft n most RES w g d p R W) (hd : d < n) (hp : p ≤ most) (hf : ft (R.take d ++ [(p : Int)]) = false) (hr : W'.rowIs w.heap.size 3 n (fun j => .int .i64 ((R.set d (p : Int)).getD j 0))) (hb : Below w.heap.size w W') : X.SR ft n most RES w g d (p + 1) (R.set d (p : Int)) W' := by
  have hlen := h.len
  have hg : ∀ i, i < d → (R.set d (p : Int)).getD i 0 = R.getD i 0 := fun i hi => by
    simp only [List.getD_eq_getElem?_getD, List.getElem?_set]
    rw [if_neg (by omega)]
  have ht : (R.set d (p : Int)).take d = R.take d := by rw [List.take_set_of_le (Nat.le_refl _)]
  have hp3 := X.pow3 (show most - p < most + 1 - p by omega)
  have hwt := h.wt
  refine ⟨hr, hb, by simpa using hlen, h.d1, h.dn, by omega, fun i hi => ?_, fun i hi => ?_, fun i k h1 h2 => ?_, ?_, ?_⟩
  · rw [hg i hi]; exact h.lo i hi
  · rw [hg i hi]; have := h.hi i hi; omega
  · rw [hg i (by omega), hg k h2]; exact h.up i k h1 h2
  · rw [ht, ← h.res, X.find_step (by rw [X.take_len hlen (by omega)]; omega) hp, if_neg (by rw [hf]; simp), show most + 1 - (p + 1) = most - p by omega]
  · rw [ht, show most + 1 - (p + 1) = most - p by omega]
    have : 1 ≤ 3 ^ (most - p) := Nat.pow_pos (by omega)
    omega
/-- Back to the last decision. -/
theorem X.SR.back (h : X.SR ft n most RES w g (d + 1) p R W) (hd1 : 1 ≤ d) (hd : d + 1 < n) (hp : ¬ p ≤ most) : ∃ g', g' < g ∧ ∃ q : Nat, R.getD d 0 = (q : Int) ∧ q ≤ most ∧ X.SR ft n most RES w g' d (q + 1) R W := by
  have hlen := h.len
  have hpm := h.pm
  have hpe : p = most + 1 := by omega
  obtain ⟨q, hq⟩ : ∃ q : Nat, R.getD d 0 = (q : Int) := ⟨(R.getD d 0).toNat, by have := h.lo d (by omega); omega⟩
  have hqp := h.hi d (by omega)
  have hrev : (R.take (d + 1)).reverse = (q : Int) :: (R.take d).reverse := by
    rw [List.take_succ_eq_append_getElem (by omega), List.reverse_append]
    have : R[d] = (q : Int) := by
      rw [← hq, List.getD_eq_getElem?_getD, List.getElem?_eq_getElem (by omega)]; rfl
    rw [this]; rfl
  have hwt := h.wt
  have hres := h.res
  rw [hrev] at hwt hres
  have hws : X.ws most ((q : Int) :: (R.take d).reverse) = 3 ^ (most - q) + X.ws most (R.take d).reverse := by
    conv => lhs; unfold X.ws
    rw [if_neg (X.rev_ne hlen hd1 (by omega)), Int.toNat_natCast]
  have hkon : X.kon ft n most ((q : Int) :: (R.take d).reverse) = (X.find ft n (most - q) (R.take d) (q + 1)).or (X.kon ft n most (R.take d).reverse) := by
    conv => lhs; unfold X.kon
    rw [if_neg (X.rev_ne hlen hd1 (by omega)), List.reverse_reverse, Int.toNat_natCast]
  rw [hws, hpe, Nat.sub_self] at hwt
  refine ⟨3 ^ (most - q) + X.ws most (R.take d).reverse, by simp at hwt; omega, q, hq, by omega, h.row, h.below, hlen, hd1, by omega, by omega, fun i hi => h.lo i (by omega), fun i hi => ?_, fun i k h1 h2 => h.up i k h1 (by omega), ?_, ?_⟩
  · have := h.up i d hi (by omega); omega
  · rw [← hres, hpe, Nat.sub_self, hkon, show most + 1 - (q + 1) = most - q by omega]
    have : X.find ft n 0 (R.take (d + 1)) (most + 1) = none := by
      unfold X.find
      rw [if_neg (by rw [X.take_len hlen (by omega)]; omega)]
    rw [this]; rfl
  · rw [show most + 1 - (q + 1) = most - q by omega]
    exact Nat.le_refl _
theorem X.SR.none (h : X.SR ft n most RES w g 1 p R W) (hn : 1 < n) (hp : ¬ p ≤ most) : RES = .none := by
  have hlen := h.len
  have hpm := h.pm
  have hpe : p = most + 1 := by omega
  have hrev : ∃ q, (R.take 1).reverse = [q] := by
    cases R with
    | nil => simp at hlen; omega
    | cons x r => exact ⟨x, rfl⟩
  obtain ⟨q, hq⟩ := hrev
  rw [← h.res, hpe, Nat.sub_self, hq]
  have : X.find ft n 0 (R.take 1) (most + 1) = .none := by
    unfold X.find
    rw [if_neg (by rw [X.take_len hlen (by omega)]; omega)]
  rw [this]; rfl
theorem X.SR.full (h : X.SR ft n most RES w g n p R W) : RES = some R := by
  rw [← h.res, X.find_full (by rw [X.take_len h.len (Nat.le_refl _)]), List.take_of_length_le (by rw [h.len]; exact Nat.le_refl _)]; rfl
end

/-- What search returns. -/
def X.SP (RES : Option (List Int)) (v : Value) (w : World) : Prop := (∃ r b c, RES = some r ∧ v = .slice (some ⟨b, 0, none⟩) r.length c ∧ RdI w (some ⟨b, 0, none⟩) r) ∨ (RES = none ∧ v = .slice none 0 0)
theorem X.rd_rowIs {W : World} {b n : Nat} {R : List Int} (h : W.rowIs b 3 n (fun j => .int .i64 (R.getD j 0))) {xs : List Int} (hx : ∀ i (hi : i < xs.length), xs[i] = R.getD i 0) (hn : xs.length ≤ n) : RdI W (some ⟨b, 0, none⟩) xs := fun k hk =>
  ⟨b, 0, rfl, by have := h.cell (i := k) (by omega); rw [Nat.zero_add, hx k hk]; exact this⟩

set_option maxHeartbeats 8000000 in
set_option maxRecDepth 100000 in
theorem search_any (n most : Nat) (fn : FuncId) (cs : Array Value) (ft : List Int → Bool) (w : World) (hn2 : 2 ≤ n) (hn8 : n ≤ 8) (hmost : most ≤ 60)
    (hcf : ∀ args w, (callFunc fn args).run Try.prog w = .ok (.enter fn args) w)
    (hfit : ∀ W b c l, Below w.heap.size w W → RdI W (some ⟨b, 0, none⟩) l → X.Ok l → (∀ i, i < l.length → l.getD i 0 ≤ most) → Calls Try.prog fn (#[.slice (some ⟨b, 0, none⟩) l.length c] ++ cs) W fun e w' => e = .returned (.bool (ft l)) ∧ Below W.heap.size W w') :
    Calls Try.prog 61 #[.int .i64 n, .int .i64 most, .func (.func fn) #[] cs] w fun e w' => ∃ v, e = .returned v ∧ X.SP (X.find ft n most [0] 1) v w' ∧ Below w.heap.size w w' := by
  have hmk := run_make_row' (P := Try.prog) 22 3 (.int .i64 0) 8 Try.underlying22 (by kernel_rfl) rfl .i64 .i64 n (by omega) (by omega)
  obtain ⟨W1, hW1⟩ : ∃ W1, w.alloc (.cells (madeCells #[.int .i64 0] n) 3) = W1 := ⟨_, rfl⟩
  have hr1 : W1.rowIs w.heap.size 3 n (fun _ => .int .i64 0) := by rw [← hW1]; exact World.rowIs_made w _ n _
  have hb1 : Below w.heap.size w W1 := by rw [← hW1]; exact (Below.refl _ _).alloc (Nat.le_refl _) _
  have HFT := hid hfit
  have HCF := hid hcf
  obtain ⟨RES, hRES⟩ : ∃ RES, X.find ft n most [0] 1 = RES := ⟨_, rfl⟩
  have HRES := hid hRES
  have HS0 : Hid (∃ g, X.SR ft n most RES w g 1 1 (List.replicate n 0) W1) := hid (by
    have ht : (List.replicate n (0 : Int)).take 1 = [0] := by rw [List.take_replicate, Nat.min_eq_left (by omega)]; rfl
    have hrep : ∀ i, (List.replicate n (0 : Int)).getD i 0 = 0 := fun i => by
      rw [List.getD_eq_getElem?_getD, List.getElem?_replicate]; split <;> rfl
    refine ⟨_, ⟨hr1.congr (fun i hi => by rw [hrep]), hb1, by simp, Nat.le_refl _, by omega, by omega, fun i hi => by rw [hrep]; exact Int.le_refl _, fun i hi => by rw [hrep]; omega, fun i k h1 h2 => by omega, ?_, Nat.le_refl _⟩⟩
    rw [ht, ← hRES]
    show (X.find ft n (most + 1 - 1) [0] 1).or (X.kon ft n most [0]) = _
    rw [Nat.add_sub_cancel]
    have : X.kon ft n most [0] = none := rfl
    rw [this, Option.or_none])
  clear hfit hcf hr1 hb1 hRES
  go_enter Try.func61, Try.ntmps61
  go_wp2_with fail
  refine X.jumps2 0 (fun g a' W => ∃ (d p : Nat) (R : List Int) (u12 u13 u14 u15 u16 u17 u18 u19 u20 u21 u22 u23 u24 u25 u26 u27 u28 u29 u30 u31 u32 u33 u34 u35 u36 u37 u38 u39 u40 u41 u42 u43 u44 u45 u46 u47 : Value), a' = { tmps := #[.int .i64 n, .int .i64 most, .func (.func fn) #[] cs, undef, undef, undef, .slice none 0 0, .slice (some ⟨w.heap.size, 0, none⟩) n n, .int .i64 (d : Nat), .int .i64 (p : Nat), .int .i64 n, .slice (some ⟨w.heap.size, 0, none⟩) n n, u12, u13, u14, u15, u16, u17, u18, u19, u20, u21, u22, u23, u24, u25, u26, u27, u28, u29, u30, u31, u32, u33, u34, u35, u36, u37, u38, u39, u40, u41, u42, u43, u44, u45, u46, u47], defers := [] } ∧ X.SR ft n most RES w g d p R W) rfl { tmps := #[.int .i64 n, .int .i64 most, .func (.func fn) #[] cs, undef, undef, undef, .slice none 0 0, .slice (some ⟨w.heap.size, 0, none⟩) n n, .int .i64 1, .int .i64 1, .int .i64 n, .slice (some ⟨w.heap.size, 0, none⟩) n n, undef, undef, undef, undef, undef, undef, undef, undef, undef, undef, undef, undef, undef, undef, undef, undef, undef, undef, undef, undef, undef, undef, undef, undef, undef, undef, undef, undef, undef, undef, undef, undef, undef, undef, undef, undef], defers := [] } W1 ?_ ?_ ?_
  · obtain ⟨g, hg⟩ := HS0.out
    exact ⟨g, 1, 1, _, undef, undef, undef, undef, undef, undef, undef, undef, undef, undef, undef, undef, undef, undef, undef, undef, undef, undef, undef, undef, undef, undef, undef, undef, undef, undef, undef, undef, undef, undef, undef, undef, undef, undef, undef, undef, rfl, hg⟩
  · intro Q' hQ'
    go_wp2_with fail
    try rw [hW1]
    go_step3
    rename_i hK
    exact hK _ _ hQ'
  · clear HS0 hmk hW1
    rintro g a' W ⟨d, p, R, u12, u13, u14, u15, u16, u17, u18, u19, u20, u21, u22, u23, u24, u25, u26, u27, u28, u29, u30, u31, u32, u33, u34, u35, u36, u37, u38, u39, u40, u41, u42, u43, u44, u45, u46, u47, rfl, hS⟩
    have HS := hid hS
    clear hS
    go_wp2_with fail
    go_loopw [8, 9] (fun dv pv wr => ∃ (d p : Nat) (R : List Int), dv = .int .i64 d ∧ pv = .int .i64 p ∧ X.SR ft n most RES w g d p R wr) (fun _ pv _ => (most : Nat) + 1 - (intOf pv).toNat)
    case atStart => exact ⟨d, p, R, rfl, rfl, HS.out⟩
    case round =>
      clear HS
      obtain ⟨d, p, R, rfl, rfl, hS⟩ := hrel
      have HS := hid hS
      clear hS
      have hd1 := HS.out.d1
      have hdn := HS.out.dn
      have hpm := HS.out.pm
      have hlen := HS.out.len
      by_cases hd : d < n
      · by_cases hp : p ≤ most
        · have hlt : decide ((d : Int) < (n : Int)) = true := by simpa using hd
          have hle : decide ((p : Int) ≤ (most : Int)) = true := by simpa using hp
          have hx : (R.take d ++ [(p : Int)]).length = d + 1 := by rw [List.length_append, X.take_len hlen hdn]; rfl
          have hg : ∀ i, i < d + 1 → (R.take d ++ [(p : Int)]).getD i 0 = (R.set d (p : Int)).getD i 0 := fun i hi => by
            rw [← X.set_take (show d < R.length by omega)]
            simp only [List.getD_eq_getElem?_getD, List.getElem?_take, if_pos hi]
          have hgs : ∀ i, (R.set d (p : Int)).getD i 0 = if i = d then (p : Int) else R.getD i 0 := fun i => by
            simp only [List.getD_eq_getElem?_getD, List.getElem?_set]
            by_cases e : d = i
            · rw [if_pos e, if_pos e.symm, if_pos (by omega)]; rfl
            · rw [if_neg e, if_neg (fun x => e x.symm)]
          have hr2 : (wr.setCell ⟨w.heap.size, d, none⟩ (.int .i64 (p : Nat))).rowIs w.heap.size 3 n (fun j => .int .i64 ((R.set d (p : Int)).getD j 0)) :=
            (HS.out.row.set d (.int .i64 (p : Nat))).congr (fun i hi => by rw [hgs]; split <;> rfl)
          have hb2 : Below w.heap.size w (wr.setCell ⟨w.heap.size, d, none⟩ (.int .i64 (p : Nat))) := HS.out.below.setCell (Nat.le_refl _) _
          have hok : X.Ok (R.take d ++ [(p : Int)]) := by
            refine ⟨⟨fun i hi => ?_, fun i hi => ?_, fun i k h1 h2 => ?_⟩, by omega, by omega⟩
            · rw [hx] at hi
              rw [hg i hi, hgs]; split
              · omega
              · exact HS.out.lo i (by omega)
            · rw [hx] at hi
              rw [hg i hi, hgs]; split
              · omega
              · have := HS.out.hi i (by omega); omega
            · rw [hx] at h2
              rw [hg i (by omega), hg k h2, hgs, hgs, if_neg (by omega)]; split
              · exact HS.out.hi i (by omega)
              · exact HS.out.up i k h1 (by omega)
          have HC := hid (HFT.out _ w.heap.size n (R.take d ++ [(p : Int)]) hb2 (X.rd_rowIs hr2 (fun i hi => by
            rw [hx] at hi
            rw [← hg i hi, List.getD_eq_getElem?_getD, List.getElem?_eq_getElem (by omega)]; rfl) (by omega)) hok (fun i hi => by
            rw [hx] at hi
            rw [hg i hi, hgs]; split
            · omega
            · have := HS.out.hi i (by omega); omega))
          rw [hx] at HC
          have HR2 := hid hr2
          have HB2 := hid hb2
          have y0 : wr.cell? ⟨w.heap.size, d, none⟩ = some (.int .i64 (R.getD d 0)) := HS.out.row.cell hd
          have f0 : ∀ k, wr.frozen? ⟨w.heap.size, k, none⟩ = false := fun k => World.rowIs.frozen HS.out.row k
          have hcf := HCF.out
          have hix : (0 : Int) ≤ (d : Int) ∧ (d : Int) < (n : Int) := by omega
          have hsl : (0 : Int) ≤ (d : Int) + 1 ∧ (d : Int) + 1 ≤ (n : Int) := by omega
          have hsl2 : ((d : Int) + 1).toNat = d + 1 := by omega
          have hsl3 : d + 1 ≤ n := by omega
          clear hx hg hgs hr2 hb2 hok
          cases hf : ft (R.take d ++ [(p : Int)]) with
          | true =>
            have HF := hid hf
            rw [hf] at HC
            clear hf
            go_wp2_with (refine HC.out.mono ?_; rintro e w3 ⟨rfl, hb3⟩)
            have HN := hid (HS.out.yes hd hp HF.out (HR2.out.of_block (hb3.block _ HR2.out.lt)) (HB2.out.trans (hb3.mono HB2.out.size)))
            clear y0 f0 HC HR2 HB2 hb3 HS
            go_wp2
            go_roundw
            case rel => exact ⟨d + 1, p + 1, _, by go_num, by go_num, HN.out⟩
            case measure => simp [intOf]; omega
          | false =>
            have HF := hid hf
            rw [hf] at HC
            clear hf
            go_wp2_with (refine HC.out.mono ?_; rintro e w3 ⟨rfl, hb3⟩)
            have HN := hid (HS.out.no hd hp HF.out (HR2.out.of_block (hb3.block _ HR2.out.lt)) (HB2.out.trans (hb3.mono HB2.out.size)))
            clear y0 f0 HC HR2 HB2 hb3 HS
            go_wp2
            go_roundw
            case rel => exact ⟨d, p + 1, _, by go_num, by go_num, HN.out⟩
            case measure => simp [intOf]; omega
        · have hlt : decide ((d : Int) < (n : Int)) = true := by simpa using hd
          have hle : decide ((p : Int) ≤ (most : Int)) = false := by simpa using hp
          have hdn1 : ((d : Int) == (n : Int)) = false := by simp; omega
          by_cases h1 : d = 1
          · subst h1
            have HN := hid (HS.out.none (by omega) hp)
            have HBE := hid HS.out.below
            clear HS
            go_wp2
            try simp only [Exit.jump]
            go_ret
            exact ⟨_, rfl, .inr ⟨HRES.out.trans HN.out, rfl⟩, HBE.out⟩
          · obtain ⟨e, rfl⟩ : ∃ e, d = e + 1 := ⟨d - 1, by omega⟩
            obtain ⟨g', hg', q, hq, hqm, hS'⟩ := HS.out.back (by omega) hd hp
            have HS' := hid hS'
            have h1b : (((e + 1 : Nat) : Int) == 1) = false := by simp; omega
            have y0 : wr.cell? ⟨w.heap.size, e, none⟩ = some (.int .i64 (q : Nat)) := by rw [← hq]; exact HS.out.row.cell (by omega)
            have e1 : (((e + 1 : Nat) : Int) - 1) = (e : Int) := by omega
            have hix : (0 : Int) ≤ (e : Int) ∧ (e : Int) < (n : Int) := by omega
            clear HS hS'
            go_wp2
            go_step3
            exact ⟨rfl, g', hg', e, q + 1, R, _, _, _, _, _, _, _, _, _, _, _, _, _, _, _, _, _, _, _, _, _, _, _, _, _, _, _, _, _, _, _, _, _, _, _, _, rfl, HS'.out⟩
      · have hdn2 : d = n := by omega
        subst hdn2
        have hlt : decide ((d : Int) < (d : Int)) = false := by simp
        have HN := hid HS.out.full
        have HRW := hid HS.out.row
        have HBE := hid HS.out.below
        clear HS
        go_wp2
        try simp only [Exit.jump]
        go_ret
        exact ⟨_, rfl, .inl ⟨R, w.heap.size, d, HRES.out.trans HN.out, by rw [hlen]; rfl, X.rd_rowIs HRW.out (fun i hi => by rw [List.getD_eq_getElem?_getD, List.getElem?_eq_getElem hi]; rfl) (by rw [hlen]; exact Nat.le_refl _)⟩, HBE.out⟩
end Go.Proofs.Ythaoacnaeafbeaa
