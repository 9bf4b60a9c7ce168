/- Package tuscheref05: the closure of arrows, place by place: as plain mathematics. No program is named here. -/
import Derived.Test.YtmbfpekcfeeifaaKReach
namespace Go.Proofs.Ytmbfpekcfeeifaa

/-- Ways whose inner places lie below k. -/
inductive K.Via (M : Nat → Nat → Bool) (k : Nat) : Nat → Nat → Prop where
  | refl (x : Nat) : K.Via M k x x
  | edge {x y : Nat} (h : M x y = true) : K.Via M k x y
  | step {x z y : Nat} (h : M x z = true) (hz : z < k) (t : K.Via M k z y) : K.Via M k x y
theorem K.Via.part {M : Nat → Nat → Bool} {k x y : Nat} (h : K.Via M (k + 1) x y) : K.Via M k x y ∨ (K.Via M k x k ∧ K.Via M k k y) := by
  induction h with
  | refl x => exact .inl (.refl x)
  | edge h => exact .inl (.edge h)
  | step h hz t ih =>
    rename_i x z y
    by_cases e : z = k
    · subst e
      rcases ih with h1 | ⟨_, h1⟩
      · exact .inr ⟨.edge h, h1⟩
      · exact .inr ⟨.edge h, h1⟩
    · have hz' : z < k := by omega
      rcases ih with h1 | ⟨h1, h2⟩
      · exact .inl (.step h hz' h1)
      · exact .inr ⟨.step h hz' h1, h2⟩
theorem K.Reach.via {M : Nat → Nat → Bool} {N : Nat} (hM : ∀ i j, M i j = true → j < N) {x y : Nat} (h : K.Reach M x y) : K.Via M N x y := by
  induction h with
  | refl x => exact .refl x
  | step h _ ih => exact .step h (hM _ _ h) ih

/-- One number of the table anew. -/
def K.fw1 (F : Nat → Nat → Bool) (k a b : Nat) : Nat → Nat → Bool := fun x y => if x = a ∧ y = b then F a b || (F a k && F k b) else F x y
/-- What holds while place k is looked at: F0: before it; all pairs that come before (a, b) are done. -/
structure K.Fw (M : Nat → Nat → Bool) (N : Nat) (F0 : Nat → Nat → Bool) (k a b : Nat) (F : Nat → Nat → Bool) : Prop where
  sound : ∀ x y, F x y = true → K.Reach M x y
  grows : ∀ x y, F0 x y = true → F x y = true
  done : ∀ x y, x < N → y < N → (x < a ∨ x = a ∧ y < b) → F0 x k = true → F0 k y = true → F x y = true
theorem K.Fw.next {M : Nat → Nat → Bool} {N : Nat} {F0 F : Nat → Nat → Bool} {k a b : Nat} (h : K.Fw M N F0 k a b F) : K.Fw M N F0 k a (b + 1) (K.fw1 F k a b) := by
  have up : ∀ x y, F x y = true → K.fw1 F k a b x y = true := fun x y hxy => by
    unfold K.fw1
    split
    · rename_i e; rw [e.1, e.2] at hxy; rw [hxy]; rfl
    · exact hxy
  refine ⟨fun x y hxy => ?_, fun x y hxy => up x y (h.grows x y hxy), fun x y hx hy hlt h1 h2 => ?_⟩
  · unfold K.fw1 at hxy
    split at hxy
    · rename_i e
      rw [e.1, e.2]
      rw [Bool.or_eq_true, Bool.and_eq_true] at hxy
      rcases hxy with h1 | ⟨h1, h2⟩
      · exact h.sound a b h1
      · exact (h.sound a k h1).trans (h.sound k b h2)
    · exact h.sound x y hxy
  · by_cases e : x = a ∧ y = b
    · obtain ⟨rfl, rfl⟩ := e
      unfold K.fw1
      rw [if_pos ⟨rfl, rfl⟩, h.grows _ _ h1, h.grows _ _ h2]; simp
    · refine up x y (h.done x y hx hy ?_ h1 h2)
      omega
theorem K.Fw.row {M : Nat → Nat → Bool} {N : Nat} {F0 F : Nat → Nat → Bool} {k a : Nat} (h : K.Fw M N F0 k a N F) : K.Fw M N F0 k (a + 1) 0 F :=
  ⟨h.sound, h.grows, fun x y hx hy hlt => h.done x y hx hy (by omega)⟩
/-- Behind the first k places. -/
structure K.FwK (M : Nat → Nat → Bool) (N k : Nat) (F : Nat → Nat → Bool) : Prop where
  sound : ∀ x y, F x y = true → K.Reach M x y
  full : ∀ x y, x < N → y < N → K.Via M k x y → F x y = true
theorem K.FwK.start {M : Nat → Nat → Bool} {N k : Nat} {F : Nat → Nat → Bool} (h : K.FwK M N k F) : K.Fw M N F k 0 0 F :=
  ⟨h.sound, fun _ _ h => h, fun x y _ _ hlt => by omega⟩
theorem K.Fw.finish {M : Nat → Nat → Bool} {N k : Nat} {F0 F : Nat → Nat → Bool} (h0 : K.FwK M N k F0) (hk : k < N) (h : K.Fw M N F0 k N 0 F) : K.FwK M N (k + 1) F :=
  ⟨h.sound, fun x y hx hy hv => by
    rcases hv.part with h1 | ⟨h1, h2⟩
    · exact h.grows x y (h0.full x y hx hy h1)
    · exact h.done x y hx hy (.inl hx) (h0.full x k hx hk h1) (h0.full k y hk hy h2)⟩
/-- The table at the beginning. -/
theorem K.FwK.zero {M F : Nat → Nat → Bool} {N : Nat} (hF : ∀ x y, x < N → y < N → (F x y = true ↔ x = y ∨ M x y = true)) (hS : ∀ x y, F x y = true → x = y ∨ M x y = true) : K.FwK M N 0 F := by
  refine ⟨fun x y h => ?_, fun x y hx hy hv => ?_⟩
  · rcases hS x y h with rfl | h1
    · exact .refl _
    · exact .step h1 (.refl _)
  · cases hv with
    | refl => exact (hF x x hx hx).2 (.inl rfl)
    | edge h => exact (hF x y hx hy).2 (.inr h)
    | step h hz t => exact absurd hz (Nat.not_lt_zero _)
theorem K.FwK.reach {M F : Nat → Nat → Bool} {N : Nat} (h : K.FwK M N N F) (hM : ∀ i j, M i j = true → j < N) {x y : Nat} (hx : x < N) (hy : y < N) : F x y = true ↔ K.Reach M x y :=
  ⟨h.sound x y, fun hr => h.full x y hx hy (hr.via hM)⟩
end Go.Proofs.Ytmbfpekcfeeifaa
