/- Package tuschelaw09: the walks of the codes C and D of the chapter's examples; worlds that grew by some objects. -/
import Derived.Test.YthnklabdjaiplaaDoorMChk
import Derived.BigQuiet
namespace Go.Proofs.YthnklabdjaiplaaDoor
open Go.RowKit

def M.alls (w : World) : List Obj → World
  | [] => w
  | o :: r => M.alls (w.alloc o) r
theorem M.alls_heap (os : List Obj) : ∀ w : World, (M.alls w os).heap = w.heap ++ os.toArray := by
  induction os with
  | nil => intro w; simp [M.alls]
  | cons o r ih => intro w; rw [M.alls, ih, show (w.alloc o).heap = w.heap.push o from rfl]; simp
theorem M.alls_below (os : List Obj) : ∀ (B : Nat) (w : World), B ≤ w.heap.size → Below B w (M.alls w os) := by
  induction os with
  | nil => intro B w _; exact Below.refl _ _
  | cons o r ih => intro B w h; exact ((Below.refl B w).alloc h o).trans (ih B (w.alloc o) (by simp; omega))
theorem M.alls_at (w : World) (os : List Obj) (i : Nat) (o : Obj) (h : os[i]? = some o) : (M.alls w os).heap[w.heap.size + i]? = some o := by
  rw [M.alls_heap, Array.getElem?_append_right (by omega)]
  simpa using h
theorem M.alls_cell (w : World) (os : List Obj) (i j : Nat) (cs : Array Value) (t : TypeId) (v : Value) (h : os[i]? = some (.cells cs t)) (hv : cs[j]? = some v) :
    (M.alls w os).cell? ⟨w.heap.size + i, j, none⟩ = some v := by
  simp [World.cell?, M.alls_at w os i _ h, hv]
/-- A row of numbers among what grew. -/
theorem M.alls_row (w : World) (os : List Obj) (i : Nat) (xs : List Int) (t : TypeId) (h : os[i]? = some (.cells (xs.map (Value.int .i64 ·)).toArray t)) : RdI (M.alls w os) (some ⟨w.heap.size + i, 0, none⟩) xs := fun k hk =>
  ⟨_, 0, rfl, by rw [Nat.zero_add]; exact M.alls_cell w os i k _ t _ h (by simp [hk])⟩
/-- A list of rows among what grew: row k is the object i + k. -/
theorem M.alls_rows (w : World) (os : List Obj) (j i : Nat) (T : List (List Int)) (t u : TypeId) (cap : Nat → Nat)
    (hr : ∀ k (h : k < T.length), os[i + k]? = some (.cells ((T[k].map (Value.int .i64 ·)).toArray) t))
    (hT : os[j]? = some (.cells (((List.range T.length).map (fun k => Value.slice (some ⟨w.heap.size + (i + k), 0, none⟩) (T.getD k []).length (cap k))).toArray) u)) :
    RdM (M.alls w os) (some ⟨w.heap.size + j, 0, none⟩) T := fun k hk =>
  ⟨_, 0, some ⟨w.heap.size + (i + k), 0, none⟩, cap k, rfl, by
    rw [Nat.zero_add]
    refine M.alls_cell w os j k _ u _ hT ?_
    simp [hk, List.getD], M.alls_row w os (i + k) T[k] t (hr k hk)⟩

def M.C : List (List Int) := [[0, 0, 0], [1, 1, 1], [2, 2, 2]]
def M.D : List (List Int) := [[0, 0], [0, 1], [1, 0], [1, 1]]
/-- A code that is handed back. -/
def M.CdE (m : Int) (T : List (List Int)) (w : World) (e : Ending) (w' : World) : Prop := ∃ a, e = .returned (M.cv m a T.length T.length) ∧ RdM w' a T ∧ Below w.heap.size w w'

def M.rwo (l : List Int) : Obj := .cells ((l.map (Value.int .i64 ·)).toArray) 3
set_option maxHeartbeats 1000000 in
theorem C_any (w : World) : Calls Tryd.prog 43 #[] w (M.CdE 3 M.C w) := by
  go_enter Tryd.func43, Tryd.ntmps43
  go_wp2
  obtain ⟨os, hos⟩ : ∃ os : List Obj, os = [.cells #[.int .i64 3, .slice (some ⟨w.heap.size + 4, 0, none⟩) 3 3] 24, M.rwo [0, 0, 0], M.rwo [1, 1, 1], M.rwo [2, 2, 2],
    .cells #[.slice (some ⟨w.heap.size + 1, 0, none⟩) 3 3, .slice (some ⟨w.heap.size + 2, 0, none⟩) 3 3, .slice (some ⟨w.heap.size + 3, 0, none⟩) 3 3] 25] := ⟨_, rfl⟩
  refine bodyPost_ret (v := M.cv 3 (some ⟨w.heap.size + 4, 0, none⟩) 3 3) (results_cell_row rfl _ _ w.heap.size 24 _ (0, 0) _ rfl (?_ : _ = some (Obj.cells #[.int .i64 3, .slice (some ⟨w.heap.size + 4, 0, none⟩) 3 3] 24)) Tryd.underlying24 rfl (by kernel_rfl)) rfl ?_
  · have := M.alls_at w os 0 _ (by rw [hos]; rfl)
    rw [hos] at this
    exact this
  · refine ⟨some ⟨w.heap.size + 4, 0, none⟩, rfl, ?_, ?_⟩
    · have := M.alls_rows w os 4 1 M.C 3 25 (fun _ => 3) (fun k h => by
        rw [hos]
        match k, h with
        | 0, _ => rfl
        | 1, _ => rfl
        | 2, _ => rfl) (by rw [hos]; rfl)
      rw [hos] at this
      exact this
    · have := M.alls_below os w.heap.size w (Nat.le_refl _)
      rw [hos] at this
      exact this
set_option maxHeartbeats 1000000 in
theorem D_any (w : World) : Calls Tryd.prog 41 #[] w (M.CdE 2 M.D w) := by
  go_enter Tryd.func41, Tryd.ntmps41
  go_wp2
  obtain ⟨os, hos⟩ : ∃ os : List Obj, os = [.cells #[.int .i64 2, .slice (some ⟨w.heap.size + 5, 0, none⟩) 4 4] 24, M.rwo [0, 0], M.rwo [0, 1], M.rwo [1, 0], M.rwo [1, 1],
    .cells #[.slice (some ⟨w.heap.size + 1, 0, none⟩) 2 2, .slice (some ⟨w.heap.size + 2, 0, none⟩) 2 2, .slice (some ⟨w.heap.size + 3, 0, none⟩) 2 2, .slice (some ⟨w.heap.size + 4, 0, none⟩) 2 2] 25] := ⟨_, rfl⟩
  refine bodyPost_ret (v := M.cv 2 (some ⟨w.heap.size + 5, 0, none⟩) 4 4) (results_cell_row rfl _ _ w.heap.size 24 _ (0, 0) _ rfl (?_ : _ = some (Obj.cells #[.int .i64 2, .slice (some ⟨w.heap.size + 5, 0, none⟩) 4 4] 24)) Tryd.underlying24 rfl (by kernel_rfl)) rfl ?_
  · have := M.alls_at w os 0 _ (by rw [hos]; rfl)
    rw [hos] at this
    exact this
  · refine ⟨some ⟨w.heap.size + 5, 0, none⟩, rfl, ?_, ?_⟩
    · have := M.alls_rows w os 5 1 M.D 3 25 (fun _ => 2) (fun k h => by
        rw [hos]
        match k, h with
        | 0, _ => rfl
        | 1, _ => rfl
        | 2, _ => rfl
        | 3, _ => rfl) (by rw [hos]; rfl)
      rw [hos] at this
      exact this
    · have := M.alls_below os w.heap.size w (Nat.le_refl _)
      rw [hos] at this
      exact this
end Go.Proofs.YthnklabdjaiplaaDoor
