/- A table that is made row by row, by appends: what holds at the heads of the two loops; and that a table made from three arrangements is a table. -/
import Derived.Test.YtlpdlnefgjmgmaaArr
import Derived.Test.YtlpdlnefgjmgmaaMath
namespace Go.Proofs.Ytlpdlnefgjmgmaa
open Go.RowKit

/-- The number at an index. -/
def P.nat (xs : List Int) (k : Nat) : Nat := (xs.getD k 0).toNat

theorem perm_facts {xs : List Int} {n : Nat} (h : xs.Perm (P.upto n)) :
    xs.length = n ∧ (∀ k, k < n → P.nat xs k < n) ∧ (∀ k (hk : k < xs.length), xs[k] = (P.nat xs k : Int)) ∧ (∀ i j, i < n → j < n → P.nat xs i = P.nat xs j → i = j) := by
  have hl : xs.length = n := by rw [h.length_eq, P.upto_length]
  have hm : ∀ k (hk : k < xs.length), ∃ v : Nat, v < n ∧ xs[k] = (v : Int) := fun k hk => by
    have := h.mem_iff.1 (List.getElem_mem hk)
    unfold P.upto at this
    rw [List.mem_map] at this
    obtain ⟨v, hv, e⟩ := this
    exact ⟨v, List.mem_range.1 hv, e.symm⟩
  have hat : ∀ k (hk : k < xs.length), xs[k] = (P.nat xs k : Int) ∧ P.nat xs k < n := fun k hk => by
    obtain ⟨v, hv, e⟩ := hm k hk
    have e2 : P.nat xs k = v := by
      simp only [P.nat, List.getD, List.getElem?_eq_getElem hk, Option.getD_some, e]
      omega
    rw [e2]
    exact ⟨e, hv⟩
  have hn : xs.Nodup := h.nodup_iff.2 (by
    unfold P.upto
    refine List.Pairwise.map _ ?_ List.nodup_range
    intro a b hab e
    exact hab (by omega))
  refine ⟨hl, fun k hk => (hat k (by omega)).2, fun k hk => (hat k hk).1, fun i j hi hj e => ?_⟩
  have hi' : i < xs.length := by omega
  have hj' : j < xs.length := by omega
  have e1 := (hat i hi').1
  have e2 := (hat j hj').1
  exact (List.getElem_inj (h₀ := hi') (h₁ := hj') hn).1 (by rw [e1, e2, e])

def P.tabRow (n : Nat) (E : Nat → Nat → Nat) (s : Nat) : List Int := (List.range n).map fun d : Nat => (E s d : Int)
def P.tab (n : Nat) (E : Nat → Nat → Nat) : List (List Int) := (List.range n).map fun s : Nat => P.tabRow n E s

theorem P.tab_length (n : Nat) (E : Nat → Nat → Nat) : (P.tab n E).length = n := by simp [P.tab]
theorem P.tabRow_length (n : Nat) (E : Nat → Nat → Nat) (s : Nat) : (P.tabRow n E s).length = n := by simp [P.tabRow]
theorem P.tab_row {n : Nat} {E : Nat → Nat → Nat} {s : Nat} (h : s < (P.tab n E).length) : (P.tab n E)[s] = P.tabRow n E s := by simp [P.tab]
theorem P.tab_at {n : Nat} {E : Nat → Nat → Nat} {s d : Nat} (hs : s < n) (hd : d < n) : P.at (P.tab n E) s d = E s d := by
  simp [P.at, P.tab, P.tabRow, hs, hd]

theorem tab_made {n : Nat} {E : Nat → Nat → Nat} (h2 : 2 ≤ n) (h5 : n ≤ 10) (hb : ∀ s d, s < n → d < n → E s d < n) (hr : ∀ s i j, s < n → i < n → j < n → E s i = E s j → i = j)
    (hc : ∀ d i j, d < n → i < n → j < n → E i d = E j d → i = j) : Tab (P.tab n E) where
  lo := by rw [P.tab_length]; exact h2
  hi := by rw [P.tab_length]; exact h5
  sq := ⟨fun i hi => by rw [P.tab_row, P.tabRow_length, P.tab_length], fun i hi k hk => by
    have hi' : i < n := by rwa [P.tab_length] at hi
    have e := P.tab_row (n := n) (E := E) hi
    have hk' : k < n := by rw [e, P.tabRow_length] at hk; exact hk
    have e2 : (P.tab n E)[i][k] = (E i k : Int) := by simp [P.tab, P.tabRow]
    rw [e2, P.tab_length]
    have := hb i k hi' hk'
    omega⟩
  no := P.repeats_false (fun i hi k hk => by
    rw [P.tab_length] at hi hk
    unfold P.bad
    rw [List.any_eq_false]
    intro j hj
    have hj' := List.mem_range.1 hj
    rw [P.tab_at hi (by omega), P.tab_at hi hk, P.tab_at (show j < n by omega) hi, P.tab_at hk hi]
    intro h
    rw [Bool.or_eq_true, beq_iff_eq, beq_iff_eq] at h
    rcases h with h | h
    · have := hr i j k hi (by omega) hk h; omega
    · have := hc i j k hi (by omega) hk h; omega)

theorem mod_inj {n a x y : Nat} (hx : x < n) (hy : y < n) (h : (a + x) % n = (a + y) % n) : x = y := by
  rcases Nat.le_total x y with hle | hle
  · have := Nat.sub_mod_eq_zero_of_mod_eq h.symm
    rw [show a + y - (a + x) = y - x from by omega, Nat.mod_eq_of_lt (by omega)] at this
    omega
  · have := Nat.sub_mod_eq_zero_of_mod_eq h
    rw [show a + x - (a + y) = x - y from by omega, Nat.mod_eq_of_lt (by omega)] at this
    omega

theorem tab_three {n : Nat} {r c m : Nat → Nat} (h2 : 2 ≤ n) (h5 : n ≤ 10) (hr : ∀ k, k < n → r k < n) (hc : ∀ k, k < n → c k < n) (hm : ∀ k, k < n → m k < n)
    (ir : ∀ i j, i < n → j < n → r i = r j → i = j) (ic : ∀ i j, i < n → j < n → c i = c j → i = j) (im : ∀ i j, i < n → j < n → m i = m j → i = j) :
    Tab (P.tab n fun s d => m ((r s + c d) % n)) := by
  have hl : ∀ x, x % n < n := fun x => Nat.mod_lt _ (by omega)
  refine tab_made h2 h5 (fun s d _ _ => hm _ (hl _)) (fun s i j hs hi hj e => ?_) (fun d i j hd hi hj e => ?_)
  · exact ic i j hi hj (mod_inj (hc i hi) (hc j hj) (im _ _ (hl _) (hl _) e))
  · have e2 := im _ _ (hl _) (hl _) e
    rw [Nat.add_comm (r i), Nat.add_comm (r j)] at e2
    exact ir i j hi hj (mod_inj (hr i hi) (hr j hj) e2)

/-- Numbers in cells. -/
def Nums (w : World) (b off n : Nat) (r : Nat → Nat) : Prop := ∀ k, k < n → w.cell? ⟨b, off + k, none⟩ = some (.int .i64 (r k))

theorem Nums.of {w : World} {a : Option Addr} {xs : List Int} {n : Nat} (h : RdI w a xs) (hp : xs.Perm (P.upto n)) (hn : 0 < n) : ∃ b off, a = some ⟨b, off, none⟩ ∧ Nums w b off n (P.nat xs) := by
  obtain ⟨hl, _, hat, _⟩ := perm_facts hp
  obtain ⟨b, off, rfl, _⟩ := h 0 (by omega)
  refine ⟨b, off, rfl, fun k hk => ?_⟩
  obtain ⟨b', off', he, hc⟩ := h k (by omega)
  simp only [Option.some.injEq, Addr.mk.injEq, and_true] at he
  obtain ⟨rfl, rfl⟩ := he
  rw [hc, hat]

theorem Nums.stays {w w' : World} {b off n : Nat} {r : Nat → Nat} (h : Nums w b off n r) (hb : Below w.heap.size w w') : Nums w' b off n r := fun k hk => cell_stays hb (Nat.le_refl _) (h k hk)

/-- At the outer loop's head: s rows are made. -/
structure MOut (w3 wr : World) (N n : Nat) (E : Nat → Nat → Nat) (s : Nat) (av cv : Nat → Nat) : Prop where
  below : Below N w3 wr
  lt : N < wr.heap.size
  top : wr.rowIs N 35 n (fun j => if j < s then .slice (some ⟨av j, 0, none⟩) n (cv j) else .slice none 0 0)
  row : ∀ j, j < s → N < av j ∧ av j < wr.heap.size ∧ ∀ d, d < n → wr.cell? ⟨av j, d, none⟩ = some (.int .i64 (E j d))

/-- At the inner loop's head: d numbers of row s are made. -/
structure MIn (w3 wi : World) (N n : Nat) (E : Nat → Nat → Nat) (s : Nat) (av cv : Nat → Nat) (H : Nat) (v : Value) (d : Nat) : Prop where
  below : Below N w3 wi
  ge : H ≤ wi.heap.size
  top : wi.rowIs N 35 n (fun j => if j < s then .slice (some ⟨av j, 0, none⟩) n (cv j) else if j = s then v else .slice none 0 0)
  row : ∀ j, j < s → ∀ d, d < n → wi.cell? ⟨av j, d, none⟩ = some (.int .i64 (E j d))
  own : OwnV wi H v (P.tabRow d E s)

theorem mout_start {w3 : World} {n : Nat} {E : Nat → Nat → Nat} {av cv : Nat → Nat} : MOut w3 (w3.alloc (.cells (madeCells #[.slice none 0 0] n) 35)) w3.heap.size n E 0 av cv :=
  ⟨(Below.refl _ _).alloc (Nat.le_refl _) _, by simp, (World.rowIs_made w3 _ n 35).congr (fun j _ => by simp), fun j hj => absurd hj (Nat.not_lt_zero _)⟩

theorem min_start {w3 wr : World} {N n : Nat} {E : Nat → Nat → Nat} {s : Nat} {av cv : Nat → Nat} (h : MOut w3 wr N n E s av cv) : MIn w3 wr N n E s av cv wr.heap.size (.slice none 0 0) 0 :=
  ⟨h.below, Nat.le_refl _, h.top.congr (fun j _ => by
    by_cases e : j < s
    · simp [e]
    · simp [e]), fun j hj => (h.row j hj).2.2, World.ownsRow_nil _ _ _ _⟩

theorem min_done {w3 wi : World} {N n : Nat} {E : Nat → Nat → Nat} {s : Nat} {av cv : Nat → Nat} {H : Nat} {v : Value} (h : MIn w3 wi N n E s av cv H v n) (h0 : 0 < n) (hN : N < H) (hav : ∀ j, j < s → N < av j ∧ av j < H) :
    ∃ av' cv', MOut w3 wi N n E (s + 1) av' cv' := by
  have hl : (P.tabRow n E s).length = n := P.tabRow_length _ _ _
  obtain ⟨g, cap, hv, ho⟩ := OwnI.of_row h.own (by omega)
  have hb := OwnI.base ho
  refine ⟨fun j => if j = s then g else av j, fun j => if j = s then cap else cv j, h.below, Nat.lt_of_lt_of_le hN h.ge, h.top.congr (fun j _ => ?_), fun j hj => ?_⟩
  · by_cases e : j = s
    · subst e; simp [hv, hl]
    · by_cases hlt : j < s
      · simp [hlt, e, show j < s + 1 by omega]
      · simp [hlt, e, show ¬ j < s + 1 by omega]
  · by_cases e : j = s
    · subst e
      simp only [if_true]
      refine ⟨by omega, by omega, fun d hd => ?_⟩
      obtain ⟨b', off', he, hc⟩ := ho.rd d (by omega)
      simp only [Option.some.injEq, Addr.mk.injEq, and_true] at he
      obtain ⟨rfl, rfl⟩ := he
      rw [Nat.zero_add] at hc
      rw [hc]
      simp [P.tabRow]
    · simp only [if_neg e]
      have := hav j (by omega)
      have := h.ge
      exact ⟨by omega, by omega, h.row j (by omega)⟩

theorem grownBy_set (w : World) (a : Addr) (u : Value) : w.grownBy (w.setCell a u) (some a.block) :=
  ⟨rfl, rfl, rfl, by simp, fun k _ hk => Below.heap_setCell _ _ _ _ (fun e => hk (by rw [e]))⟩

theorem P.tabRow_succ (d : Nat) (E : Nat → Nat → Nat) (s : Nat) : P.tabRow (d + 1) E s = P.tabRow d E s ++ [(E s d : Int)] := by
  unfold P.tabRow
  rw [List.range_succ, List.map_append]
  rfl

theorem min_step {w3 wi Wa w2 W : World} {N n : Nat} {E : Nat → Nat → Nat} {s : Nat} {av cv : Nat → Nat} {H : Nat} {v v' : Value} {d : Nat} (h : MIn w3 wi N n E s av cv H v d) (hN : N < H) (hav : ∀ j, j < s → N < av j ∧ av j < H)
    (hs : s < n) (hWa : Same Wa (wi.alloc (.cells #[.int .i64 (E s d)] 3)))
    (hown : w2.ownsRow H 3 1 v' (d + 1) ((P.tabRow d E s).map (Value.int .i64) ++ [.int .i64 (E s d)])) (hg : Wa.grownBy w2 v.ownBlock) (hW : Same W (w2.setCell ⟨N, s, none⟩ v')) :
    MIn w3 W N n E s av cv H v' (d + 1) := by
  have hsz : Wa.heap.size = wi.heap.size + 1 := by rw [hWa.1]; simp
  have hge := h.ge
  have hgs := hg.size
  have hvb : ∀ q, v.ownBlock = some q → H ≤ q := fun q hq => (OwnV.lt h.own q hq).1
  have hfar : ∀ q, q < H → w2.heap[q]? = wi.heap[q]? := fun q hq => by
    rw [hg.block q (by omega) (fun e => by have := hvb q e.symm; omega), hWa.1]
    exact Below.heap_alloc _ _ _ (by omega)
  refine ⟨below_same (Below.setCell (Below.grown (below_same (h.below.alloc (by omega) _) hWa) hg (by omega) (fun q hq => by have := hvb q hq; omega)) (by show N ≤ N; exact Nat.le_refl _) _) hW, by rw [hW.1]; simp; omega, ?_, fun j hj d' hd' => ?_, ?_⟩
  · have ht2 := (h.top.of_block (w' := w2) (hfar N hN)).set s v'
    refine (ht2.of_block (w' := W) (by rw [hW.1])).congr (fun j _ => ?_)
    by_cases e : j = s
    · subst e; simp
    · simp [e]
  · have := hav j hj
    rw [← h.row j hj d' hd']
    refine World.cell?_of_block ?_
    rw [hW.1]
    show (w2.setCell ⟨N, s, none⟩ v').heap[av j]? = _
    rw [Below.heap_setCell _ _ _ _ (show av j ≠ N by omega)]
    exact hfar _ this.2
  · unfold OwnV
    rw [P.tabRow_succ, List.map_append, List.length_append, P.tabRow_length]
    refine ownsRow_heap (World.ownsRow.kept hown (grownBy_set w2 ⟨N, s, none⟩ v') (Or.inr fun e => ?_)) hW.1
    have := (World.ownsRow.lt hown N e).1
    omega

theorem mout_rd {w3 wr : World} {N n : Nat} {E : Nat → Nat → Nat} {av cv : Nat → Nat} (h : MOut w3 wr N n E n av cv) : RdM wr (some ⟨N, 0, none⟩) (P.tab n E) := fun s hs => by
  have hs' : s < n := by rwa [P.tab_length] at hs
  have e := P.tab_row (n := n) (E := E) hs
  refine ⟨N, 0, some ⟨av s, 0, none⟩, cv s, rfl, ?_, ?_⟩
  · rw [Nat.zero_add, h.top.cell hs', if_pos hs', e, P.tabRow_length]
  · rw [e]
    intro d hd
    have hd' : d < n := by rwa [P.tabRow_length] at hd
    refine ⟨av s, 0, rfl, ?_⟩
    rw [Nat.zero_add, (h.row s hs').2.2 d hd']
    simp [P.tabRow]

end Go.Proofs.Ytlpdlnefgjmgmaa
