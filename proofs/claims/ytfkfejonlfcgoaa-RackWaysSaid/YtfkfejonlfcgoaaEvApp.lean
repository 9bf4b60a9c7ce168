import Derived.Test.YtfkfejonlfcgoaaEvVer
namespace Go.Proofs.Ytfkfejonlfcgoaa.Ev
open Go Go.RowKit
section
variable {P : Program} {w : World}

theorem growBy_le (newLen : Nat) : ∀ (r c B : Nat), c ≤ B → newLen + (newLen + 768) / 4 ≤ B → Builtin.growBy newLen r c ≤ B
  | 0, c, B, h, _ => h
  | r + 1, c, B, h, k => by
    unfold Builtin.growBy
    by_cases hc : c ≥ newLen
    · rw [if_pos hc]; exact h
    · rw [if_neg hc]; exact growBy_le newLen r _ B (by omega) k
theorem nextslicecap_le {need old : Nat} (h : old < need) : Builtin.nextslicecap need old ≤ 2 * need + 192 := by
  unfold Builtin.nextslicecap
  split
  · omega
  · split
    · omega
    · exact growBy_le _ _ _ _ (by omega) (by omega)

theorem append_fits {at' : Array TypeId} {ty sT xT e : TypeId} {d : TypeDesc} {info : TypeInfo} {base : Option Addr} {n c m : Nat} {x : Value} {new : Array Value} {w' : World}
    (h0 : at'[0]? = some sT) (h1 : at'[1]? = some xT) (hs : P.underlying sT = some (.slice e)) (hx : P.underlying xT = some d) (hz : ∀ k, d ≠ .int k) (hi : semP P (typeInfo e) = some info)
    (hm : (Builtin.lenOf x).run P w = .ok m w) (hc : (Builtin.firstCells info.size m x).run P w = .ok new w) (hfit : n + m ≤ c)
    (hst : (match base with | some a => storeCells (a.add (n * info.size)) new.toList | none => pure () : Sem Unit).run P w = .ok () w') :
    (Builtin.append_ at' ty #[.slice base n c, x]).run P w = .ok (.slice base (n + m) c) w' := by
  unfold Builtin.append_
  simp only [h0, h1]
  simp only [List.getElem?_toArray, List.getElem?_cons_zero, List.getElem?_cons_succ, Sem.run_bind, run_under hs, run_under hx, info_size hi, Result.andThen_ok, Sem.run_pure, Bool.false_eq_true, if_false, hm, hfit, if_true, Bool.not_false, hc]
  cases base with
  | none => simp only [Sem.run_pure, Result.ok.injEq, true_and] at hst; subst hst; rfl
  | some a => simp only [Sem.run_bind, hst, Result.andThen_ok, Sem.run_pure]

theorem append_grows {at' : Array TypeId} {ty sT xT e : TypeId} {d : TypeDesc} {info : TypeInfo} {z : Value} {base : Option Addr} {n c m : Nat} {x : Value} {old new : Array Value}
    (h0 : at'[0]? = some sT) (h1 : at'[1]? = some xT) (hs : P.underlying sT = some (.slice e)) (hx : P.underlying xT = some d) (hz : ∀ k, d ≠ .int k) (hi : semP P (typeInfo e) = some info) (hzz : info.zero = some z)
    (hm : (Builtin.lenOf x).run P w = .ok m w) (hc : (Builtin.firstCells info.size m x).run P w.drew = .ok new w.drew) (ho : (Builtin.firstCells info.size n (.slice base n c)).run P w.drew = .ok old w.drew)
    (hfit : c < n + m) (hb : n + m ≤ 131072) (hby : info.bytes ≤ 65536) :
    ∃ cap, n + m ≤ cap ∧ (Builtin.append_ at' ty #[.slice base n c, x]).run P w = .ok (.slice (some ⟨w.heap.size, 0, none⟩) (n + m) cap) (w.drew.alloc (.cells (old ++ new ++ Builtin.zeroCells z.cells (cap - (n + m))) e)) := by
  have hinfo := semP_run _ _ hi
  have hzv : ∀ w1 : World, (zeroValue e).run P w1 = .ok z w1 := fun w1 => by unfold zeroValue; rw [Sem.run_bind, hinfo w1]; simp only [Result.andThen_ok, hzz, Sem.run_pure]
  have k1 : ¬ n + m ≤ c := by omega
  have k2 : ¬ (((n + m : Nat) : Int) > IntKind.i64.max ∧ (False ∨ info.bytes = 0)) := by
    rintro ⟨h, _⟩
    have : IntKind.i64.max = 9223372036854775807 := rfl
    omega
  have k3 : ¬ Builtin.nextslicecap (n + m) c * info.bytes > 2 ^ 48 := by
    have h1 := nextslicecap_le hfit
    have h2 : Builtin.nextslicecap (n + m) c * info.bytes ≤ 262336 * 65536 := Nat.mul_le_mul (by omega) hby
    have h3 : (2 : Nat) ^ 48 = 281474976710656 := rfl
    omega
  refine ⟨(n + m) + (w.tape w.drawn (.appendCap (n + m) c e)) % (2 ^ 63 - (n + m)), by omega, ?_⟩
  unfold Builtin.append_
  simp only [h0, h1]
  simp only [List.getElem?_toArray, List.getElem?_cons_zero, List.getElem?_cons_succ, Sem.run_bind, run_under hs, run_under hx, info_size hi, Result.andThen_ok, Sem.run_pure, Bool.false_eq_true, if_false, hm, k1, hinfo, k2, k3, run_choose, Question.forced, Question.cut, World.drew_eq, run_askRoom, ho, Bool.not_false, if_true, hc, hzv, newRow, run_newObj, World.alloc_eq, World.size_drew]

theorem append_fits_z {at' : Array TypeId} {ty sT xT e : TypeId} {kx k : IntKind} {info : TypeInfo} {z : Value} {base : Option Addr} {n c m : Nat} {w' : World}
    (h0 : at'[0]? = some sT) (h1 : at'[1]? = some xT) (hs : P.underlying sT = some (.slice e)) (hx : P.underlying xT = some (.int kx)) (hi : semP P (typeInfo e) = some info) (hzz : info.zero = some z)
    (hm : m ≤ 65536) (hby : info.bytes ≤ 65536) (hfit : n + m ≤ c)
    (hst : (match base with | some a => storeCells (a.add (n * info.size)) (if m * info.size = 0 then #[] else Builtin.zeroCells z.cells m).toList | none => pure () : Sem Unit).run P w = .ok () w') :
    (Builtin.append_ at' ty #[.slice base n c, .int k (m : Int)]).run P w = .ok (.slice base (n + m) c) w' := by
  have hinfo := semP_run _ _ hi
  have hzv : ∀ w1 : World, (zeroValue e).run P w1 = .ok z w1 := fun w1 => by unfold zeroValue; rw [Sem.run_bind, hinfo w1]; simp only [Result.andThen_ok, hzz, Sem.run_pure]
  have wm : IntKind.i64.wrap (m : Int) = m := IntWalk.i64_in _ (by omega)
  have c1 : ¬ (m : Int) < 0 := by omega
  have hmul : m * info.bytes ≤ 4294967296 := Nat.le_trans (Nat.mul_le_mul hm hby) (by decide)
  have p48 : (2 : Int) ^ 48 = 281474976710656 := rfl
  have c2 : ¬ (m : Int) * (info.bytes : Int) > 2 ^ 48 := by rw [p48, ← Int.natCast_mul]; generalize m * info.bytes = q at hmul ⊢; omega
  unfold Builtin.append_
  simp only [h0, h1]
  by_cases h0' : m * info.size = 0
  · rw [if_pos h0'] at hst
    simp only [List.getElem?_toArray, List.getElem?_cons_zero, List.getElem?_cons_succ, Sem.run_bind, run_under hs, run_under hx, info_size hi, Result.andThen_ok, Sem.run_pure, if_true, asInt, asIntOf, pure_bind, wm, c1, if_false, hinfo, c2, Int.toNat_natCast, hfit, Bool.not_true, Bool.false_eq_true, h0']
    cases base with
    | none => simp only [Sem.run_pure, Result.ok.injEq, true_and] at hst; subst hst; rfl
    | some a => simp only [Sem.run_bind, hst, Result.andThen_ok, Sem.run_pure]
  · rw [if_neg h0'] at hst
    simp only [List.getElem?_toArray, List.getElem?_cons_zero, List.getElem?_cons_succ, Sem.run_bind, run_under hs, run_under hx, info_size hi, Result.andThen_ok, Sem.run_pure, if_true, asInt, asIntOf, pure_bind, wm, c1, if_false, hinfo, c2, Int.toNat_natCast, hfit, Bool.not_true, Bool.false_eq_true, h0', hzv]
    cases base with
    | none => simp only [Sem.run_pure, Result.ok.injEq, true_and] at hst; subst hst; rfl
    | some a => simp only [Sem.run_bind, hst, Result.andThen_ok, Sem.run_pure]

theorem append_grows_z {at' : Array TypeId} {ty sT xT e : TypeId} {kx k : IntKind} {info : TypeInfo} {z : Value} {base : Option Addr} {n c m : Nat} {old : Array Value}
    (h0 : at'[0]? = some sT) (h1 : at'[1]? = some xT) (hs : P.underlying sT = some (.slice e)) (hx : P.underlying xT = some (.int kx)) (hi : semP P (typeInfo e) = some info) (hzz : info.zero = some z)
    (hm : m ≤ 65536) (ho : (Builtin.firstCells info.size n (.slice base n c)).run P w.drew = .ok old w.drew)
    (hfit : c < n + m) (hb : n + m ≤ 131072) (hby : info.bytes ≤ 65536) (hms : m * info.size ≠ 0) :
    ∃ cap, n + m ≤ cap ∧ (Builtin.append_ at' ty #[.slice base n c, .int k (m : Int)]).run P w = .ok (.slice (some ⟨w.heap.size, 0, none⟩) (n + m) cap) (w.drew.alloc (.cells (old ++ Builtin.zeroCells z.cells m ++ Builtin.zeroCells z.cells (cap - (n + m))) e)) := by
  have hinfo := semP_run _ _ hi
  have hzv : ∀ w1 : World, (zeroValue e).run P w1 = .ok z w1 := fun w1 => by unfold zeroValue; rw [Sem.run_bind, hinfo w1]; simp only [Result.andThen_ok, hzz, Sem.run_pure]
  have wm : IntKind.i64.wrap (m : Int) = m := IntWalk.i64_in _ (by omega)
  have c1 : ¬ (m : Int) < 0 := by omega
  have hmul : m * info.bytes ≤ 4294967296 := Nat.le_trans (Nat.mul_le_mul hm hby) (by decide)
  have p48 : (2 : Int) ^ 48 = 281474976710656 := rfl
  have c2 : ¬ (m : Int) * (info.bytes : Int) > 2 ^ 48 := by rw [p48, ← Int.natCast_mul]; generalize m * info.bytes = q at hmul ⊢; omega
  have k1 : ¬ n + m ≤ c := by omega
  have k2 : ¬ (((n + m : Nat) : Int) > IntKind.i64.max) := by
    have : IntKind.i64.max = 9223372036854775807 := rfl
    omega
  have k3 : ¬ Builtin.nextslicecap (n + m) c * info.bytes > 2 ^ 48 := by
    have h1 := nextslicecap_le hfit
    have h2 : Builtin.nextslicecap (n + m) c * info.bytes ≤ 262336 * 65536 := Nat.mul_le_mul (by omega) hby
    have h3 : (2 : Nat) ^ 48 = 281474976710656 := rfl
    omega
  have k2' : ¬ (((n + m : Nat) : Int) > IntKind.i64.max ∧ (True ∨ info.bytes = 0)) := fun h => k2 h.1
  refine ⟨(n + m) + (w.tape w.drawn (.appendCap (n + m) c e)) % (2 ^ 63 - (n + m)), by omega, ?_⟩
  unfold Builtin.append_
  simp only [h0, h1]
  simp only [List.getElem?_toArray, List.getElem?_cons_zero, List.getElem?_cons_succ, Sem.run_bind, run_under hs, run_under hx, info_size hi, Result.andThen_ok, Sem.run_pure, if_true, asInt, asIntOf, pure_bind, wm, c1, if_false, hinfo, c2, Int.toNat_natCast, k1, k2', k3, run_choose, Question.forced, Question.cut, World.drew_eq, run_askRoom, ho, Bool.not_true, Bool.false_eq_true, hms, hzv, newRow, run_newObj, World.alloc_eq, World.size_drew]
end
end Go.Proofs.Ytfkfejonlfcgoaa.Ev
