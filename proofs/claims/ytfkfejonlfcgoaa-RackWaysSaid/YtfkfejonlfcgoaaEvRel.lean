import Derived.Test.YtfkfejonlfcgoaaEvT
namespace Go.Proofs.Ytfkfejonlfcgoaa.Ev
open Go Go.RowKit

/-- Of each object: its block, its cell 0's place there, and where the block's cells end (counted from cell 0). -/
abbrev Rho := Nat → Option (Nat × Int × Nat)
/-- The address that stands behind cell k of object i. -/
def At (ρ : Rho) (i k : Nat) (a : Addr) : Prop := ∃ b o e, ρ i = some (b, o, e) ∧ a.block = b ∧ a.spot = none ∧ (a.off : Int) = o + k

/-- Object i's block has cells up to e. -/
def Room (ρ : Rho) (i e : Nat) : Prop := ∃ b o e', ρ i = some (b, o, e') ∧ e ≤ e'

mutual
def RelV (ρ : Rho) : AV → Value → Prop
  | .sc v, x => x = v
  | .ptr i k, x => ∃ a, At ρ i k a ∧ x = .pointer (some a)
  | .sl i k n z c, x => ∃ a cap, (0 < cap → At ρ i k a ∧ Room ρ i (k + cap * z)) ∧ n ≤ cap ∧ (∀ m, c = some m → cap = m) ∧ x = .slice (some a) n cap
  | .mp i, x => ∃ b, ρ i = some (b, 0, 0) ∧ x = .map (some b)
  | .fn f l m, x => ∃ xs ys, RelL ρ l xs ∧ RelL ρ m ys ∧ x = .func f xs.toArray ys.toArray
  | .ifc t v, x => ∃ y, RelV ρ v y ∧ x = .iface t y
  | .agg l, x => ∃ xs, RelL ρ l xs ∧ x = .agg xs.toArray
  | .tup l, x => ∃ xs, RelL ρ l xs ∧ x = .tuple xs.toArray
  | .res k m r, x => ∃ z : Nat, z < 65536 ∧ z % m = r ∧ x = .int k z
  termination_by structural v => v
def RelL (ρ : Rho) : List AV → List Value → Prop
  | [], xs => xs = []
  | v :: l, xs => ∃ y ys, RelV ρ v y ∧ RelL ρ l ys ∧ xs = y :: ys
  termination_by structural l => l
end

def Ext (ρ ρ' : Rho) : Prop := ∀ i p, ρ i = some p → ρ' i = some p
theorem Ext.refl (ρ : Rho) : Ext ρ ρ := fun _ _ h => h
theorem Ext.trans {a b c : Rho} (h : Ext a b) (k : Ext b c) : Ext a c := fun i p e => k i p (h i p e)
theorem At.mono {ρ ρ' : Rho} (hx : Ext ρ ρ') {i k : Nat} {a : Addr} (h : At ρ i k a) : At ρ' i k a := by
  obtain ⟨b, o, e, h1, h2⟩ := h; exact ⟨b, o, e, hx _ _ h1, h2⟩
theorem Room.mono {ρ ρ' : Rho} (hx : Ext ρ ρ') {i e : Nat} (h : Room ρ i e) : Room ρ' i e := by
  obtain ⟨b, o, e', h1, h2⟩ := h; exact ⟨b, o, e', hx _ _ h1, h2⟩

mutual
theorem RelV.mono {ρ ρ' : Rho} (hx : Ext ρ ρ') : ∀ (v : AV) (x : Value), RelV ρ v x → RelV ρ' v x
  | .sc _, _, h => by simpa only [RelV] using h
  | .ptr _ _, _, h => by
    simp only [RelV] at h ⊢; obtain ⟨a, h1, h2⟩ := h; exact ⟨a, h1.mono hx, h2⟩
  | .sl _ _ _ _ _, _, h => by
    simp only [RelV] at h ⊢; obtain ⟨a, cap, h1, h2⟩ := h; exact ⟨a, cap, fun hp => ⟨(h1 hp).1.mono hx, (h1 hp).2.mono hx⟩, h2⟩
  | .mp _, _, h => by
    simp only [RelV] at h ⊢; obtain ⟨b, h1, h2⟩ := h; exact ⟨b, hx _ _ h1, h2⟩
  | .fn _ l m, _, h => by
    simp only [RelV] at h ⊢; obtain ⟨xs, ys, h1, h2, h3⟩ := h
    exact ⟨xs, ys, RelL.mono hx l xs h1, RelL.mono hx m ys h2, h3⟩
  | .ifc _ v, _, h => by
    simp only [RelV] at h ⊢; obtain ⟨y, h1, h2⟩ := h; exact ⟨y, RelV.mono hx v y h1, h2⟩
  | .agg l, _, h => by
    simp only [RelV] at h ⊢; obtain ⟨xs, h1, h2⟩ := h; exact ⟨xs, RelL.mono hx l xs h1, h2⟩
  | .tup l, _, h => by
    simp only [RelV] at h ⊢; obtain ⟨xs, h1, h2⟩ := h; exact ⟨xs, RelL.mono hx l xs h1, h2⟩
  | .res _ _ _, _, h => by simpa only [RelV] using h
theorem RelL.mono {ρ ρ' : Rho} (hx : Ext ρ ρ') : ∀ (l : List AV) (xs : List Value), RelL ρ l xs → RelL ρ' l xs
  | [], _, h => by simpa only [RelL] using h
  | v :: l, _, h => by
    simp only [RelL] at h ⊢
    obtain ⟨y, ys, h1, h2, h3⟩ := h
    exact ⟨y, ys, RelV.mono hx v y h1, RelL.mono hx l ys h2, h3⟩
end

/-! Lists. -/
section lists
variable {ρ : Rho}
theorem RelL.nil_iff {xs : List Value} : RelL ρ [] xs ↔ xs = [] := by simp only [RelL]
theorem RelL.cons {v : AV} {l : List AV} {x : Value} {xs : List Value} (h : RelV ρ v x) (hl : RelL ρ l xs) : RelL ρ (v :: l) (x :: xs) := by
  simp only [RelL]; exact ⟨x, xs, h, hl, rfl⟩
theorem RelL.cons_inv {v : AV} {l : List AV} {xs : List Value} (h : RelL ρ (v :: l) xs) : ∃ y ys, RelV ρ v y ∧ RelL ρ l ys ∧ xs = y :: ys := by
  simpa only [RelL] using h
theorem RelL.length : ∀ {l : List AV} {xs : List Value}, RelL ρ l xs → xs.length = l.length
  | [], _, h => by rw [RelL.nil_iff.1 h]; rfl
  | _ :: l, _, h => by
    obtain ⟨y, ys, _, h2, rfl⟩ := h.cons_inv
    simp [RelL.length h2]
theorem RelL.append : ∀ {l m : List AV} {xs ys : List Value}, RelL ρ l xs → RelL ρ m ys → RelL ρ (l ++ m) (xs ++ ys)
  | [], _, _, _, h, k => by rw [RelL.nil_iff.1 h]; exact k
  | _ :: _, _, _, _, h, k => by
    obtain ⟨y, zs, h1, h2, rfl⟩ := h.cons_inv
    exact RelL.cons h1 (RelL.append h2 k)
theorem RelL.get : ∀ {l : List AV} {xs : List Value}, RelL ρ l xs → ∀ (i : Nat) (v : AV), l[i]? = some v → ∃ x, xs[i]? = some x ∧ RelV ρ v x
  | [], _, _, i, v, e => by simp at e
  | u :: l, _, h, i, v, e => by
    obtain ⟨y, ys, h1, h2, rfl⟩ := h.cons_inv
    cases i with
    | zero => simp at e; subst e; exact ⟨y, rfl, h1⟩
    | succ i => simp at e; obtain ⟨x, hx, hr⟩ := RelL.get h2 i v e; exact ⟨x, by simpa using hx, hr⟩
theorem RelL.of_get : ∀ {l : List AV} {xs : List Value}, xs.length = l.length → (∀ (i : Nat) v x, l[i]? = some v → xs[i]? = some x → RelV ρ v x) → RelL ρ l xs
  | [], xs, h, _ => by
    have : xs = [] := List.length_eq_zero_iff.1 h
    exact RelL.nil_iff.2 this
  | v :: l, [], h, _ => by simp at h
  | v :: l, x :: xs, h, k => RelL.cons (k 0 v x rfl rfl) (RelL.of_get (by simpa using h) fun i v x h1 h2 => k (i + 1) v x (by simpa using h1) (by simpa using h2))
theorem RelL.set {l : List AV} {xs : List Value} (h : RelL ρ l xs) {v : AV} {x : Value} (hv : RelV ρ v x) (k : Nat) : RelL ρ (l.set k v) (xs.set k x) := by
  refine RelL.of_get (by simp [h.length]) fun i u y h1 h2 => ?_
  rw [List.getElem?_set] at h1 h2
  by_cases hk : k = i
  · rw [if_pos hk] at h1 h2
    have hl := h.length
    by_cases hlt : i < l.length
    · rw [if_pos (by omega)] at h1
      rw [if_pos (by omega)] at h2
      cases h1; cases h2; exact hv
    · rw [if_neg (by omega)] at h1; cases h1
  · rw [if_neg hk] at h1 h2
    obtain ⟨x', hx', hr⟩ := h.get i u h1
    rw [hx'] at h2; cases h2; exact hr
theorem RelL.scs : ∀ (xs : List Value), RelL ρ (scs xs) xs
  | [] => RelL.nil_iff.2 rfl
  | x :: xs => RelL.cons (by simp only [RelV]) (RelL.scs xs)
theorem RelL.drop {l : List AV} {xs : List Value} (h : RelL ρ l xs) (k : Nat) : RelL ρ (l.drop k) (xs.drop k) := by
  refine RelL.of_get (by simp [h.length]) fun i u y h1 h2 => ?_
  rw [List.getElem?_drop] at h1 h2
  obtain ⟨x', hx', hr⟩ := h.get _ u h1
  rw [hx'] at h2; cases h2; exact hr
theorem RelL.take {l : List AV} {xs : List Value} (h : RelL ρ l xs) (k : Nat) : RelL ρ (l.take k) (xs.take k) := by
  refine RelL.of_get (by simp [h.length]) fun i u y h1 h2 => ?_
  rw [List.getElem?_take] at h1 h2
  by_cases hk : i < k
  · rw [if_pos hk] at h1 h2
    obtain ⟨x', hx', hr⟩ := h.get _ u h1
    rw [hx'] at h2; cases h2; exact hr
  · rw [if_neg hk] at h1; cases h1
end lists

/-! Values. -/
section values
variable {ρ : Rho}
theorem relV_sc {v x : Value} : RelV ρ (.sc v) x ↔ x = v := by simp only [RelV]
theorem RelV.sc (v : Value) : RelV ρ (.sc v) v := relV_sc.2 rfl
theorem relV_ptr {i k : Nat} {x : Value} : RelV ρ (.ptr i k) x ↔ ∃ a, At ρ i k a ∧ x = .pointer (some a) := by simp only [RelV]
theorem relV_sl {i k n z : Nat} {c : Option Nat} {x : Value} : RelV ρ (.sl i k n z c) x ↔ ∃ a cap, (0 < cap → At ρ i k a ∧ Room ρ i (k + cap * z)) ∧ n ≤ cap ∧ (∀ m, c = some m → cap = m) ∧ x = .slice (some a) n cap := by simp only [RelV]
theorem relV_mp {i : Nat} {x : Value} : RelV ρ (.mp i) x ↔ ∃ b, ρ i = some (b, 0, 0) ∧ x = .map (some b) := by simp only [RelV]
theorem relV_fn {f : Fn} {l m : List AV} {x : Value} : RelV ρ (.fn f l m) x ↔ ∃ xs ys, RelL ρ l xs ∧ RelL ρ m ys ∧ x = .func f xs.toArray ys.toArray := by simp only [RelV]
theorem relV_ifc {t : TypeId} {v : AV} {x : Value} : RelV ρ (.ifc t v) x ↔ ∃ y, RelV ρ v y ∧ x = .iface t y := by simp only [RelV]
theorem relV_agg {l : List AV} {x : Value} : RelV ρ (.agg l) x ↔ ∃ xs, RelL ρ l xs ∧ x = .agg xs.toArray := by simp only [RelV]
theorem relV_tup {l : List AV} {x : Value} : RelV ρ (.tup l) x ↔ ∃ xs, RelL ρ l xs ∧ x = .tuple xs.toArray := by simp only [RelV]
theorem relV_res {k : IntKind} {m r : Nat} {x : Value} : RelV ρ (.res k m r) x ↔ ∃ z : Nat, z < 65536 ∧ z % m = r ∧ x = .int k z := by simp only [RelV]

theorem RelV.cells {v : AV} {x : Value} (h : RelV ρ v x) : RelL ρ v.cells x.cells.toList := by
  have one : ∀ (u : AV) (y : Value), RelV ρ u y → (∀ cs, y ≠ .agg cs) → RelL ρ [u] y.cells.toList := by
    intro u y hu hne
    cases y with
    | agg cs => exact absurd rfl (hne cs)
    | _ => exact RelL.cons hu (RelL.nil_iff.2 rfl)
  cases v with
  | sc v => rw [relV_sc.1 h]; exact RelL.scs _
  | ptr i k => obtain ⟨a, _, rfl⟩ := relV_ptr.1 h; exact one _ _ h (by intros; simp)
  | sl i k n z c => obtain ⟨a, cap, _, _, _, rfl⟩ := relV_sl.1 h; exact one _ _ h (by intros; simp)
  | mp i => obtain ⟨a, _, rfl⟩ := relV_mp.1 h; exact one _ _ h (by intros; simp)
  | fn f l m => obtain ⟨a, _, _, _, rfl⟩ := relV_fn.1 h; exact one _ _ h (by intros; simp)
  | ifc t v => obtain ⟨a, _, rfl⟩ := relV_ifc.1 h; exact one _ _ h (by intros; simp)
  | agg l => obtain ⟨xs, hl, rfl⟩ := relV_agg.1 h; simpa [AV.cells, Value.cells] using hl
  | tup l => obtain ⟨xs, hl, rfl⟩ := relV_tup.1 h; exact one _ _ h (by intros; simp)
  | res k m r => obtain ⟨z, _, _, rfl⟩ := relV_res.1 h; exact one _ _ h (by intros; simp)

/-- A value of one cell is neither an aggregate nor a tuple. -/
def plainV : Value → Prop
  | .agg _ | .tuple _ => False
  | _ => True
theorem RelV.one {v : AV} {x : Value} (h : RelV ρ v x) (ho : v.one = true) : plainV x := by
  cases v with
  | sc v => rw [relV_sc.1 h]; cases v <;> simp_all [AV.one, plainV]
  | ptr i k => obtain ⟨a, _, rfl⟩ := relV_ptr.1 h; trivial
  | sl i k n z c => obtain ⟨a, cap, _, _, _, rfl⟩ := relV_sl.1 h; trivial
  | mp i => obtain ⟨a, _, rfl⟩ := relV_mp.1 h; trivial
  | fn f l m => obtain ⟨a, _, _, _, rfl⟩ := relV_fn.1 h; trivial
  | ifc t v => obtain ⟨a, _, rfl⟩ := relV_ifc.1 h; trivial
  | agg l => simp [AV.one] at ho
  | tup l => simp [AV.one] at ho
  | res k m r => obtain ⟨z, _, _, rfl⟩ := relV_res.1 h; trivial

mutual
theorem RelV.toV : ∀ (v : AV) (x y : Value), RelV ρ v x → v.toV = some y → x = y
  | .sc v, x, y, h, e => by
    have e' : v = y := Option.some.inj e
    rw [relV_sc.1 h, e']
  | .agg l, x, y, h, e => by
    obtain ⟨xs, hl, rfl⟩ := relV_agg.1 h
    simp only [AV.toV] at e
    split at e
    · rename_i vs hvs; cases e; rw [RelL.toVs l xs vs hl hvs]
    · cases e
  | .tup l, x, y, h, e => by
    obtain ⟨xs, hl, rfl⟩ := relV_tup.1 h
    simp only [AV.toV] at e
    split at e
    · rename_i vs hvs; cases e; rw [RelL.toVs l xs vs hl hvs]
    · cases e
  | .ptr _ _, _, _, _, e => by simp [AV.toV] at e
  | .sl _ _ _ _ _, _, _, _, e => by simp [AV.toV] at e
  | .mp _, _, _, _, e => by simp [AV.toV] at e
  | .fn _ _ _, _, _, _, e => by simp [AV.toV] at e
  | .ifc _ _, _, _, _, e => by simp [AV.toV] at e
  | .res _ _ _, _, _, _, e => by simp [AV.toV] at e
theorem RelL.toVs : ∀ (l : List AV) (xs ys : List Value), RelL ρ l xs → Ev.toVs l = some ys → xs = ys
  | [], xs, ys, h, e => by rw [RelL.nil_iff.1 h]; simp only [Ev.toVs, Option.some.injEq] at e; exact e
  | v :: l, xs, ys, h, e => by
    obtain ⟨z, zs, h1, h2, rfl⟩ := h.cons_inv
    simp only [Ev.toVs] at e
    split at e
    · rename_i u hu
      split at e
      · rename_i us hus
        cases e
        rw [RelV.toV v z u h1 hu, RelL.toVs l zs us h2 hus]
      · cases e
    · cases e
end
end values

/-! What asks for nothing but the program. -/
theorem semP_run {α : Type} {P : Program} : ∀ (s : Sem α) (a : α), semP P s = some a → ∀ w, s.run P w = .ok a w
  | .pure b, a, h, w => by cases (show some b = some a from h); rfl
  | .program k, a, h, w => by
    have h' : semP P (k P) = some a := h
    simp only [Sem.run]; exact semP_run (k P) a h' w
  | .load .., _, h, _ | .store .., _, h, _ | .new .., _, h, _ | .shape .., _, h, _ | .freeze .., _, h, _ | .frozen .., _, h, _
  | .getObj .., _, h, _ | .setObj .., _, h, _ | .choose .., _, h, _ | .sys .., _, h, _ | .mark .., _, h, _ | .halt .., _, h, _ => by cases (show none = some _ from h)

end Go.Proofs.Ytfkfejonlfcgoaa.Ev
