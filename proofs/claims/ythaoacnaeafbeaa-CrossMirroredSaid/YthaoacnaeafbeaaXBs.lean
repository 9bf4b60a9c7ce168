/- slices.BinarySearch at []int by its contract. -/
import Derived.Test.YthaoacnaeafbeaaXSft
import Derived.Shelf.Slices.SearchI
import Derived.Shelf.Lay
import Derived.Ground.Names2Prog
namespace Go.Proofs.Ythaoacnaeafbeaa
open Go.Shelf Go.RowKit

shelf_lay Lays2.n25 Nm2 25 at Try as Try.laysSearch

theorem search_calls (b off n c : Nat) (zs : List Int) (x : Int) (w : World) (hz : n ≤ zs.length) (hbig : n < 4611686018427387904) (hc : ∀ j, j < zs.length → w.cell? ⟨b, off + j, none⟩ = some (.int .i64 (zs.getD j 0))) (hs : (zs.take n).Pairwise (· ≤ ·)) :
    Calls Try.prog 77 #[.slice (some ⟨b, off, none⟩) n c, .int .i64 x] w fun e w' => e = .returned (.tuple #[.int .i64 ((zs.take n).countP (· < x) : Nat), .bool ((zs.take n).contains x)]) ∧ ∃ q, w' = w.drewN q := by
  have h := Any.slices_BinarySearch_int Try.laysSearch b off n c zs x w hz hbig hc hs
  have e : Try.laysSearch_ren.f 25 = 77 := by kernel_rfl
  rw [e] at h
  exact h
/-- How many numbers are less. -/
def X.at (l : List Int) (x : Int) : Nat := l.countP (· < x)
theorem X.pw {most : Int} {l : List Int} (h : X.Up most l) : l.Pairwise (· < ·) := by
  rw [List.pairwise_iff_getElem]
  intro i j hi hj hij
  have := h.lt i j hij hj
  simpa [List.getD, hi, hj] using this
theorem X.bs (b off c : Nat) (l : List Int) (x : Int) (w : World) (hl : RdI w (some ⟨b, off, none⟩) l) (hok : X.Ok l) :
    Calls Try.prog 77 #[.slice (some ⟨b, off, none⟩) l.length c, .int .i64 x] w fun e w' => e = .returned (.tuple #[.int .i64 (X.at l x : Nat), .bool (l.contains x)]) ∧ ∃ q, w' = w.drewN q := by
  have h8 := hok.eight
  have h := search_calls b off l.length c l x w (Nat.le_refl _) (by omega) (fun j hj => by
    obtain ⟨b', o', he, hc⟩ := X.num hl hj
    simp only [Option.some.injEq, Addr.mk.injEq, and_true] at he
    obtain ⟨rfl, rfl⟩ := he
    exact hc) (by
    rw [List.take_length]
    exact (X.pw hok.up).imp (fun h => Int.le_of_lt h))
  rw [List.take_length] at h
  exact h
theorem X.at_lt {x : Int} : ∀ {l : List Int}, l.Pairwise (· < ·) → ∀ i (h : i < l.length), l[i] < x ↔ i < X.at l x
  | [], _, i, h => absurd h (Nat.not_lt_zero _)
  | y :: l, hp, i, h => by
    obtain ⟨h1, h2⟩ := List.pairwise_cons.1 hp
    unfold X.at
    rw [List.countP_cons]
    by_cases hy : y < x
    · rw [if_pos (by simpa using hy)]
      cases i with
      | zero => exact ⟨fun _ => Nat.succ_pos _, fun _ => hy⟩
      | succ i =>
        have := X.at_lt (x := x) h2 i (by simpa using h)
        unfold X.at at this
        simp only [List.getElem_cons_succ]
        omega
    · rw [if_neg (by simpa using hy)]
      have h0 : l.countP (· < x) = 0 := by
        rw [List.countP_eq_zero]
        intro z hz
        have := h1 z hz
        simp; omega
      rw [h0]
      cases i with
      | zero => exact ⟨fun h => absurd h hy, fun h => absurd h (Nat.lt_irrefl _)⟩
      | succ i =>
        have := h1 _ (List.getElem_mem (show i < l.length by simpa using h))
        simp only [List.getElem_cons_succ]
        omega
theorem X.at_le (l : List Int) (x : Int) : X.at l x ≤ l.length := List.countP_le_length
/-- A rule with one more place. -/
def X.ins (l : List Int) (x : Int) : List Int := l.take (X.at l x) ++ ([x] ++ l.drop (X.at l x))
theorem X.ins_len (l : List Int) (x : Int) : (X.ins l x).length = l.length + 1 := by
  unfold X.ins
  have := X.at_le l x
  simp only [List.length_append, List.length_take, List.length_drop, List.length_singleton]
  omega
theorem X.ins_get (l : List Int) (x : Int) (i : Nat) : (X.ins l x).getD i 0 = if i < X.at l x then l.getD i 0 else if i = X.at l x then x else l.getD (i - 1) 0 := by
  have ha := X.at_le l x
  have hl : (l.take (X.at l x)).length = X.at l x := by rw [List.length_take]; omega
  unfold X.ins
  simp only [List.getD_eq_getElem?_getD]
  by_cases h1 : i < X.at l x
  · rw [if_pos h1, List.getElem?_append_left (by omega), List.getElem?_take, if_pos h1]
  · rw [if_neg h1, List.getElem?_append_right (by omega), hl]
    by_cases h2 : i = X.at l x
    · rw [if_pos h2, h2, Nat.sub_self]; rfl
    · rw [if_neg h2, List.getElem?_append_right (by simp; omega), List.getElem?_drop]
      congr 2
      simp; omega
theorem X.ins_ok {l : List Int} {x : Int} (hok : X.Ok l) (h7 : l.length ≤ 7) (hx : 0 ≤ x ∧ x ≤ 60) (hn : x ∉ l) : X.Ok (X.ins l x) := by
  have ha := X.at_le l x
  have hlt : ∀ i, i < l.length → (l.getD i 0 < x ↔ i < X.at l x) := fun i hi => by
    have := X.at_lt (x := x) (X.pw hok.up) i hi
    simpa [List.getD, hi] using this
  have hne : ∀ i, i < l.length → l.getD i 0 ≠ x := fun i hi e => hn (by
    rw [← e, List.getD_eq_getElem?_getD, List.getElem?_eq_getElem hi]
    exact List.getElem_mem hi)
  have hil := X.ins_len l x
  refine ⟨⟨fun i hi => ?_, fun i hi => ?_, fun i k h1 h2 => ?_⟩, by have := hok.two; omega, by omega⟩
  · rw [X.ins_get]
    split
    · exact hok.up.lo i (by omega)
    · split
      · exact hx.1
      · exact hok.up.lo _ (by omega)
  · rw [X.ins_get]
    split
    · exact hok.up.hi i (by omega)
    · split
      · exact hx.2
      · exact hok.up.hi _ (by omega)
  · rw [X.ins_get, X.ins_get]
    by_cases c1 : i < X.at l x
    · rw [if_pos c1]
      by_cases c2 : k < X.at l x
      · rw [if_pos c2]; exact hok.up.lt i k h1 (by omega)
      · rw [if_neg c2]
        by_cases c3 : k = X.at l x
        · rw [if_pos c3]; exact (hlt i (by omega)).2 c1
        · rw [if_neg c3]
          exact hok.up.lt i (k - 1) (by omega) (by omega)
    · rw [if_neg c1, if_neg (show ¬ k < X.at l x by omega), if_neg (show ¬ k = X.at l x by omega)]
      by_cases c3 : i = X.at l x
      · rw [if_pos c3]
        have h3 := hne (k - 1) (by omega)
        have h4 : ¬ l.getD (k - 1) 0 < x := fun h => by have := (hlt (k - 1) (by omega)).1 h; omega
        omega
      · rw [if_neg c3]
        exact hok.up.lt (i - 1) (k - 1) (by omega) (by omega)
end Go.Proofs.Ythaoacnaeafbeaa
