/- Package mark, plain: the lean coalitions in order. No program is named here. -/
import Derived.Test.YthnklabdjaiplaaDoorMLex
namespace Go.Proofs.YthnklabdjaiplaaDoor
open Go.RowKit

theorem M.sorted_nodup {L : List (List Nat)} (h : L.Pairwise M.lex) : L.Nodup := h.imp fun {a b} hab e => by rw [e] at hab; exact M.lex_irrefl b hab

theorem M.all_nodup (N m : Nat) : (M.all N m).Nodup := by
  induction m with
  | zero => simp [M.all]
  | succ m ih =>
    rw [M.all_succ, List.nodup_append]
    refine ⟨ih, M.sorted_nodup (M.sub_sorted N (m + 1) 0), fun a ha b hb e => ?_⟩
    have h1 := (M.mem_all.1 ha).2.1
    have h2 := (M.mem_sub.1 hb).1
    rw [e] at h1
    omega

/-- What is sorted and holds each member once is the one ascending list. -/
theorem M.sorted_is {ys : List (List Nat)} {L : List (List Nat)} (hs : ys.Pairwise (fun a b => ¬ M.lex b a)) (hn : ys.Nodup) (hL : L.Pairwise M.lex) (hm : ∀ l, l ∈ ys ↔ l ∈ L) : ys = L := by
  refine M.sorted_ext ?_ hL hm
  have := hs.and hn
  refine this.imp ?_
  rintro a b ⟨h1, h2⟩
  rcases M.lex_total a b with h | h | h
  · exact h
  · exact absurd h h2
  · exact absurd h h1
end Go.Proofs.YthnklabdjaiplaaDoor
