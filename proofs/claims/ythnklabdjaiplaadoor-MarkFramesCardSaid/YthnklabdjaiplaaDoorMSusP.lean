/- Package mark: lists of coalitions that a doubt can consist of; pairs. -/
import Derived.Test.YthnklabdjaiplaaDoorMCol
import Derived.Test.YthnklabdjaiplaaDoorMQK
import Derived.Test.YthnklabdjaiplaaDoorMMem
namespace Go.Proofs.YthnklabdjaiplaaDoor
open Go.RowKit Go.Shelf
attribute [local go_sem] Oper.semAt_some

/-- Have two coalitions no member in common? -/
def M.dis (a b : List Nat) : Bool := (M.mem [M.toI a, M.toI b]).length == 0
/-- One coalition and the first j of those behind it. -/
def M.twR (S : List (List Nat)) (i j : Nat) : List (List (List Nat)) :=
  ((List.range j).filter fun t => M.dis (S.getD i []) (S.getD (i + 1 + t) [])).map fun t => [S.getD i [], S.getD (i + 1 + t) []]
def M.twA (S : List (List Nat)) : Nat → List (List (List Nat))
  | 0 => []
  | i + 1 => M.twA S i ++ M.twR S i (S.length - (i + 1))
def M.tri (l : List Nat) : List (List Nat) := [[l.getD 0 0, l.getD 1 0], [l.getD 0 0, l.getD 2 0], [l.getD 1 0, l.getD 2 0]]
def M.sus (N : Nat) : List (List (List Nat)) := M.twA (M.all N 2) (M.all N 2).length ++ (M.combs N 3).map M.tri

theorem M.twR_succ (S : List (List Nat)) (i j : Nat) : M.twR S i (j + 1) = M.twR S i j ++ if M.dis (S.getD i []) (S.getD (i + 1 + j) []) = true then [[S.getD i [], S.getD (i + 1 + j) []]] else [] := by
  unfold M.twR
  rw [List.range_succ, List.filter_append, List.map_append]
  cases h : M.dis (S.getD i []) (S.getD (i + 1 + j) []) with
  | true => rw [List.filter_cons, if_pos h]; rfl
  | false => rw [List.filter_cons, if_neg (by rw [h]; exact Bool.false_ne_true)]; rfl
theorem M.twR_pre (S : List (List Nat)) (i j m : Nat) (h : j ≤ m) : ∃ Z, M.twR S i m = M.twR S i j ++ Z := by
  have : ∀ d, ∃ Z, M.twR S i (j + d) = M.twR S i j ++ Z := by
    intro d
    induction d with
    | zero => exact ⟨[], by simp⟩
    | succ d ih =>
      obtain ⟨Z, hZ⟩ := ih
      exact ⟨_, by rw [← Nat.add_assoc, M.twR_succ, hZ, List.append_assoc]⟩
  have h1 := this (m - j)
  rwa [show j + (m - j) = m by omega] at h1
theorem M.twA_pre (S : List (List Nat)) (i m : Nat) (h : i ≤ m) : ∃ Z, M.twA S m = M.twA S i ++ Z := by
  have : ∀ d, ∃ Z, M.twA S (i + d) = M.twA S i ++ Z := by
    intro d
    induction d with
    | zero => exact ⟨[], by simp⟩
    | succ d ih =>
      obtain ⟨Z, hZ⟩ := ih
      refine ⟨Z ++ M.twR S (i + d) (S.length - (i + d + 1)), ?_⟩
      show M.twA S (i + d) ++ _ = _
      rw [hZ, List.append_assoc]
      rfl
  have h1 := this (m - i)
  rwa [show i + (m - i) = m by omega] at h1
/-- What has been yielded in the two loops begins the whole. -/
theorem M.sus_two {N i j : Nat} (hi : i < (M.all N 2).length) (hj : j ≤ (M.all N 2).length - (i + 1)) : ∃ Z, M.sus N = (M.twA (M.all N 2) i ++ M.twR (M.all N 2) i j) ++ Z := by
  obtain ⟨Z1, h1⟩ := M.twR_pre (M.all N 2) i j _ hj
  obtain ⟨Z2, h2⟩ := M.twA_pre (M.all N 2) (i + 1) _ hi
  refine ⟨Z1 ++ Z2 ++ (M.combs N 3).map M.tri, ?_⟩
  unfold M.sus
  rw [h2]
  show (M.twA (M.all N 2) i ++ M.twR (M.all N 2) i ((M.all N 2).length - (i + 1))) ++ Z2 ++ _ = _
  rw [h1]
  simp only [List.append_assoc]
theorem M.sus_tri {N j : Nat} : ∃ Z, M.sus N = (M.twA (M.all N 2) (M.all N 2).length ++ ((M.combs N 3).take j).map M.tri) ++ Z := by
  refine ⟨((M.combs N 3).drop j).map M.tri, ?_⟩
  unfold M.sus
  rw [List.append_assoc, ← List.map_append, List.take_append_drop]
theorem M.sus_len {N : Nat} (hN : N ≤ 10) : (M.sus N).length ≤ 2000 := by
  have h : ((List.range 11).all fun a => decide ((M.sus a).length ≤ 2000)) = true := by kernel_rfl
  have := List.all_eq_true.1 h N (by simp; omega)
  simpa using this
theorem M.pre_len {N : Nat} {Y Z : List (List (List Nat))} (hN : N ≤ 10) (h : M.sus N = Y ++ Z) : Y.length ≤ 2000 := by
  have h1 := M.sus_len hN
  rw [h, List.length_append] at h1
  omega

/-- A list of coalitions that is handed out. -/
structure M.Dx where
  g : Nat
  xs : List M.Cx
def M.lab (x : M.Dx) : List (List Nat) := x.xs.map (·.l)
def M.encD (x : M.Dx) : Array Value := #[.slice (some ⟨x.g, 0, none⟩) x.xs.length x.xs.length]
structure M.RD (N : Nat) (x : M.Dx) (W : World) : Prop where
  row : W.ownsRow 0 25 1 (.slice (some ⟨x.g, 0, none⟩) x.xs.length x.xs.length) x.xs.length (x.xs.map M.enc1)
  rc : ∀ c, c ∈ x.xs → M.RC c W
  ok : ∀ c, c ∈ x.xs → M.asc 0 N c.l ∧ c.l.length ≤ 2
  n2 : 2 ≤ x.xs.length
  n3 : x.xs.length ≤ 3
def M.BkD (x : M.Dx) (k : Nat) : Prop := k = x.g ∨ ∃ c, c ∈ x.xs ∧ k = c.g

theorem M.RD.blk {N : Nat} {x : M.Dx} {W : World} (h : M.RD N x W) : ∃ cur, W.heap[x.g]? = some (.cells cur 25 (0, 0)) := by
  rcases h.row.2 with ⟨e1, _⟩ | ⟨g, cap, cur, e1, h1, h2, h3⟩
  · cases e1
  · simp only [Value.slice.injEq, Option.some.injEq, Addr.mk.injEq, and_true] at e1
    obtain ⟨rfl, -, rfl⟩ := e1
    exact ⟨cur, h2⟩
theorem M.RD.of_block {N : Nat} {x : M.Dx} {W W' : World} (h : M.RD N x W) (e : ∀ k, M.BkD x k → W'.heap[k]? = W.heap[k]?) : M.RD N x W' := by
  refine ⟨⟨h.row.1, ?_⟩, fun c hc => (h.rc c hc).of_block (e _ (.inr ⟨c, hc, rfl⟩)), h.ok, h.n2, h.n3⟩
  rcases h.row.2 with ⟨e1, _⟩ | ⟨g, cap, cur, e1, h1, h2, h3⟩
  · cases e1
  · simp only [Value.slice.injEq, Option.some.injEq, Addr.mk.injEq, and_true] at e1
    obtain ⟨rfl, -, rfl⟩ := e1
    exact .inr ⟨x.g, _, cur, rfl, h1, (e _ (.inl rfl)).trans h2, h3⟩
theorem M.RD.cells (N : Nat) (x : M.Dx) (W : World) (k : Nat) (h : M.RD N x W) (hk : M.BkD x k) : ∃ o : Obj, W.heap[k]? = some o ∧ o.isCells = true := by
  rcases hk with rfl | ⟨c, hc, rfl⟩
  · obtain ⟨cur, hc⟩ := h.blk
    exact ⟨_, hc, rfl⟩
  · exact M.RC.cells c W _ (h.rc c hc) rfl
theorem M.RD.lt {N : Nat} {x : M.Dx} {W : World} {k : Nat} (h : M.RD N x W) (hk : M.BkD x k) : k < W.heap.size := by
  obtain ⟨o, ho, _⟩ := M.RD.cells N x W k h hk
  exact (Array.getElem?_eq_some_iff.1 ho).1
theorem M.RD.put (N : Nat) (x : M.Dx) (W : World) (l : Nat) (o : Obj) (hl : W.heap[l]? = some o) (ho : o.isCells = false) (o' : Obj) (h : M.RD N x W) : M.RD N x (W.putObj l o') :=
  h.of_block fun k hk => World.putObj_heap_other fun e => by
    obtain ⟨o2, hc, hc2⟩ := M.RD.cells N x W k h hk
    rw [e, hl] at hc
    cases hc
    rw [ho] at hc2
    cases hc2
/-- The whole as rows of numbers. -/
theorem M.RD.rd {N : Nat} {x : M.Dx} {W : World} (h : M.RD N x W) : RdM W (some ⟨x.g, 0, none⟩) (x.xs.map fun c => M.toI c.l) := by
  intro i hi
  have hi' : i < x.xs.length := by simpa using hi
  have hm := List.getElem_mem hi'
  refine ⟨x.g, 0, some ⟨(x.xs[i]).g, 0, none⟩, (x.xs[i]).cap, rfl, ?_, ?_⟩
  · have := World.ownsRow.cellAt h.row i (by omega)
    rw [Nat.zero_add, this]
    simp [hi', M.enc1, M.toI_len]
  · simpa using (h.rc _ hm).rd

/-- A new list of coalitions that are there. -/
theorem M.rd_new (N : Nat) (w : World) (xs : List M.Cx) (h : ∀ c, c ∈ xs → M.RC c w) (hk : ∀ c, c ∈ xs → M.asc 0 N c.l ∧ c.l.length ≤ 2) (h2 : 2 ≤ xs.length) (h3 : xs.length ≤ 3) (cs : Array Value) (hc : cs = (xs.map M.enc1).toArray) : M.RD N ⟨w.heap.size, xs⟩ (w.alloc (.cells cs 25)) := by
  subst hc
  refine ⟨?_, fun c hc => (h c hc).of_block (Below.heap_alloc _ _ _ (h c hc).lt), hk, h2, h3⟩
  have := World.ownsRow_lit (base := 0) (size := 1) (e := 25) w (xs.map M.enc1).toArray xs.length (Nat.zero_le _) (by unfold maxLen; omega) (by simp)
  simpa using this

/-- A new pair of numbers. -/
theorem M.rc_new (w : World) (a b : Nat) : M.RC ⟨w.heap.size, 2, [a, b]⟩ (w.alloc (.cells #[.int .i64 (a : Nat), .int .i64 (b : Nat)] 3)) :=
  ⟨World.ownsRow_lit w _ 2 (Nat.zero_le _) (by decide) rfl, by show 1 ≤ 2; omega⟩

set_option maxHeartbeats 1000000 in
theorem pairs_any (a b c : Nat) (N : Nat) (w : World) (h1 : a < b) (h2 : b < c) (h3 : c < N) :
    Calls Tryd.prog 77 #[.int .i64 (a : Nat), .int .i64 (b : Nat), .int .i64 (c : Nat)] w fun e w' => ∃ x : M.Dx, e = .returned (.slice (some ⟨x.g, 0, none⟩) x.xs.length x.xs.length) ∧ M.RD N x w' ∧ M.lab x = M.tri [a, b, c] ∧ (∀ k, M.BkD x k → w.heap.size ≤ k) ∧ Below w.heap.size w w' := by
  go_enter Tryd.func77, Tryd.ntmps77
  go_wp2
  go_ret
  obtain ⟨w1, hw1⟩ : ∃ w1, w.alloc (.cells #[.int .i64 (a : Nat), .int .i64 (b : Nat)] 3) = w1 := ⟨_, rfl⟩
  obtain ⟨w2, hw2⟩ : ∃ w2, w1.alloc (.cells #[.int .i64 (a : Nat), .int .i64 (c : Nat)] 3) = w2 := ⟨_, rfl⟩
  obtain ⟨w3, hw3⟩ : ∃ w3, w2.alloc (.cells #[.int .i64 (b : Nat), .int .i64 (c : Nat)] 3) = w3 := ⟨_, rfl⟩
  have s1 : w1.heap.size = w.heap.size + 1 := by rw [← hw1]; simp
  have s2 : w2.heap.size = w.heap.size + 2 := by rw [← hw2]; simp [s1]
  have s3 : w3.heap.size = w.heap.size + 3 := by rw [← hw3]; simp [s2]
  have r1 : M.RC ⟨w.heap.size, 2, [a, b]⟩ w1 := hw1 ▸ M.rc_new w a b
  have r2 : M.RC ⟨w.heap.size + 1, 2, [a, c]⟩ w2 := by
    have := M.rc_new w1 a c
    rwa [hw2, s1] at this
  have r3 : M.RC ⟨w.heap.size + 1 + 1, 2, [b, c]⟩ w3 := by
    have := M.rc_new w2 b c
    rwa [hw3, s2] at this
  have k12 : w2.heap[w.heap.size]? = w1.heap[w.heap.size]? := by rw [← hw2]; exact Below.heap_alloc _ _ _ (by omega)
  have k23 : ∀ k, k < w2.heap.size → w3.heap[k]? = w2.heap[k]? := fun k hk => by rw [← hw3]; exact Below.heap_alloc _ _ _ hk
  have q1 : M.RC ⟨w.heap.size, 2, [a, b]⟩ w3 := r1.of_block ((k23 _ (by show w.heap.size < _; omega)).trans k12)
  have q2 : M.RC ⟨w.heap.size + 1, 2, [a, c]⟩ w3 := r2.of_block (k23 _ (by show w.heap.size + 1 < _; omega))
  have hb : Below w.heap.size w w3 := by
    rw [← hw3, ← hw2, ← hw1]
    exact (((Below.refl _ _).alloc (Nat.le_refl _) _).alloc (by simp) _).alloc (by simp; omega) _
  have hR := M.rd_new N w3 [⟨w.heap.size, 2, [a, b]⟩, ⟨w.heap.size + 1, 2, [a, c]⟩, ⟨w.heap.size + 1 + 1, 2, [b, c]⟩] (fun x hx => by
      rcases List.mem_cons.1 hx with rfl | hx
      · exact q1
      rcases List.mem_cons.1 hx with rfl | hx
      · exact q2
      rw [List.mem_singleton.1 hx]
      exact r3) (fun x hx => by
      rcases List.mem_cons.1 hx with rfl | hx
      · exact ⟨⟨by omega, by omega, by omega, by omega, trivial⟩, by show 2 ≤ 2; omega⟩
      rcases List.mem_cons.1 hx with rfl | hx
      · exact ⟨⟨by omega, by omega, by omega, by omega, trivial⟩, by show 2 ≤ 2; omega⟩
      rw [List.mem_singleton.1 hx]
      exact ⟨⟨by omega, by omega, by omega, by omega, trivial⟩, by show 2 ≤ 2; omega⟩) (by show 2 ≤ 3; omega) (by show 3 ≤ 3; omega) _ rfl
  rw [hw1, hw2, hw3]
  refine ⟨⟨w3.heap.size, [⟨w.heap.size, 2, [a, b]⟩, ⟨w.heap.size + 1, 2, [a, c]⟩, ⟨w.heap.size + 1 + 1, 2, [b, c]⟩]⟩, ?_, hR, rfl, ?_, hb.alloc hb.size _⟩
  · show _ = Ending.returned (Value.slice (some ⟨w3.heap.size, 0, none⟩) 3 3)
    rw [s3]
    rfl
  · rintro k (rfl | ⟨c, hc, rfl⟩)
    · show _ ≤ w3.heap.size
      omega
    · rcases List.mem_cons.1 hc with rfl | hc
      · exact Nat.le_refl _
      rcases List.mem_cons.1 hc with rfl | hc
      · show _ ≤ w.heap.size + 1; omega
      rw [List.mem_singleton.1 hc]
      show _ ≤ w.heap.size + 1 + 1
      omega
end Go.Proofs.YthnklabdjaiplaaDoor
