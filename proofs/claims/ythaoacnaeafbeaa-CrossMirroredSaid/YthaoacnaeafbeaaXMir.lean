/- Plain: a rule that is mirrored, or shifted, has the same distances. -/
import Derived.Test.YthaoacnaeafbeaaXSrt
import Derived.Test.YthaoacnaeafbeaaXBst
import Derived.Test.YthaoacnaeafbeaaXRTw
namespace Go.Proofs.Ythaoacnaeafbeaa
open Go.RowKit

/-- The index of a pair, mirrored. -/
def X.mi (n : Nat) (p : Nat × Nat) : Nat × Nat := (n - 1 - p.2, n - 1 - p.1)
theorem X.clr_iff {l : List Int} : X.clr l = true ↔ ∀ p q : Nat × Nat, p.1 < p.2 → p.2 < l.length → q.1 < q.2 → q.2 < l.length → X.dis l p = X.dis l q → p = q := by
  unfold X.clr
  rw [Option.isNone_iff_eq_none]
  have hmem : ∀ p : Nat × Nat, p ∈ X.prs l ↔ p.1 < p.2 ∧ p.2 < l.length := fun p => by
    unfold X.prs
    rw [X.mem_from]
    unfold X.up
    simp
    omega
  have hpw : (X.prs l).Pairwise (fun p q => p.1 < q.1 ∨ (p.1 = q.1 ∧ p.2 < q.2)) := X.from_pw _ _
  have key : ∀ S : List (Nat × Nat), S.Pairwise (fun p q => p.1 < q.1 ∨ (p.1 = q.1 ∧ p.2 < q.2)) → (X.tw (X.dis l) S = none ↔ ∀ p ∈ S, ∀ q ∈ S, X.dis l p = X.dis l q → p = q) := by
    intro S
    induction S with
    | nil => intro _; exact ⟨fun _ p hp => absurd hp List.not_mem_nil, fun _ => rfl⟩
    | cons x S ih =>
      intro hS
      have h1 := List.pairwise_cons.1 hS
      have hne : ∀ q ∈ S, x ≠ q := fun q hq e => by
        have := h1.1 q hq
        rw [e] at this
        omega
      unfold X.tw
      cases hf : S.find? (fun q => X.dis l q == X.dis l x) with
      | some q =>
        have hq := List.mem_of_find?_eq_some hf
        have he : X.dis l q = X.dis l x := by simpa using List.find?_some (p := fun q => X.dis l q == X.dis l x) hf
        refine ⟨fun h => by simp at h, fun h => absurd (h x (List.mem_cons_self ..) q (List.mem_cons_of_mem _ hq) he.symm) (hne q hq)⟩
      | none =>
        have hn : ∀ q ∈ S, X.dis l q ≠ X.dis l x := fun q hq e => by
          have := List.find?_eq_none.1 hf q hq
          exact this (by simpa using e)
        dsimp only
        rw [ih h1.2]
        constructor
        · intro h p hp q hq e
          rcases List.mem_cons.1 hp with hp1 | hp1
          · rcases List.mem_cons.1 hq with hq1 | hq1
            · rw [hp1, hq1]
            · exact absurd e.symm (by rw [hp1]; exact hn q hq1)
          · rcases List.mem_cons.1 hq with hq1 | hq1
            · exact absurd e (by rw [hq1]; exact hn p hp1)
            · exact h p hp1 q hq1 e
        · intro h p hp q hq e
          exact h p (List.mem_cons_of_mem _ hp) q (List.mem_cons_of_mem _ hq) e
  rw [key _ hpw]
  constructor
  · intro h p q h1 h2 h3 h4 e
    exact h p ((hmem p).2 ⟨h1, h2⟩) q ((hmem q).2 ⟨h3, h4⟩) e
  · intro h p hp q hq e
    have a := (hmem p).1 hp
    have b := (hmem q).1 hq
    exact h p q a.1 a.2 b.1 b.2 e
/-- A rule with the same distances, each pair's by another pair. -/
structure X.Sim (l m : List Int) (f : Nat × Nat → Nat × Nat) : Prop where
  len : m.length = l.length
  lng : X.lng m = X.lng l
  to : ∀ p : Nat × Nat, p.1 < p.2 → p.2 < l.length → (f p).1 < (f p).2 ∧ (f p).2 < l.length ∧ X.dis m (f p) = X.dis l p ∧ f (f p) = p
theorem X.Sim.has {l m : List Int} {f : Nat × Nat → Nat × Nat} (h : X.Sim l m f) (d : Nat) : X.has (X.dis m) (X.prs m) d = X.has (X.dis l) (X.prs l) d := by
  rw [Bool.eq_iff_iff, X.has_iff, X.has_iff]
  constructor
  · rintro ⟨i, k, h1, h2, h3⟩
    have := h.to (i, k) h1 (by rw [← h.len]; exact h2)
    have h4 := h.to (f (i, k)) this.1 this.2.1
    rw [this.2.2.2] at h4
    exact ⟨(f (i, k)).1, (f (i, k)).2, this.1, this.2.1, by rw [← h3]; exact h4.2.2.1.symm⟩
  · rintro ⟨i, k, h1, h2, h3⟩
    have := h.to (i, k) h1 h2
    exact ⟨(f (i, k)).1, (f (i, k)).2, this.1, by rw [h.len]; exact this.2.1, by rw [← h3]; exact this.2.2.1⟩
theorem X.Sim.sf {l m : List Int} {f : Nat × Nat → Nat × Nat} (h : X.Sim l m f) (b : Bool) (k : Nat) : X.sf m b k = X.sf l b k := by
  unfold X.sf
  congr 1
  exact List.filter_congr fun i _ => by rw [h.has]
theorem X.Sim.clr {l m : List Int} {f : Nat × Nat → Nat × Nat} (h : X.Sim l m f) : X.clr m = X.clr l := by
  rw [Bool.eq_iff_iff, X.clr_iff, X.clr_iff, h.len]
  constructor
  · intro hm p q h1 h2 h3 h4 e
    have hp := h.to p h1 h2
    have hq := h.to q h3 h4
    have := hm (f p) (f q) hp.1 hp.2.1 hq.1 hq.2.1 (by rw [hp.2.2.1, hq.2.2.1, e])
    rw [← hp.2.2.2, ← hq.2.2.2, this]
  · intro hl p q h1 h2 h3 h4 e
    have hp := h.to p h1 h2
    have hq := h.to q h3 h4
    have hp2 := h.to (f p) hp.1 hp.2.1
    have hq2 := h.to (f q) hq.1 hq.2.1
    rw [hp.2.2.2] at hp2
    rw [hq.2.2.2] at hq2
    have := hl (f p) (f q) hp.1 hp.2.1 hq.1 hq.2.1 (by rw [← hp2.2.2.1, ← hq2.2.2.1, e])
    rw [← hp.2.2.2, ← hq.2.2.2, this]
/-- The rule mirrored; the rule shifted. -/
def X.back (l : List Int) (k : Nat) : List Int := (List.range k).map fun i => 60 - l.getD (l.length - 1 - i) 0
def X.mov (l : List Int) (s : Int) (k : Nat) : List Int := (List.range k).map fun i => l.getD i 0 + s
theorem X.back_succ (l : List Int) (k : Nat) : X.back l (k + 1) = X.back l k ++ [60 - l.getD (l.length - 1 - k) 0] := by
  unfold X.back; rw [List.range_succ, List.map_append]; rfl
theorem X.mov_succ (l : List Int) (s : Int) (k : Nat) : X.mov l s (k + 1) = X.mov l s k ++ [l.getD k 0 + s] := by
  unfold X.mov; rw [List.range_succ, List.map_append]; rfl
theorem X.back_len (l : List Int) (k : Nat) : (X.back l k).length = k := by unfold X.back; simp
theorem X.mov_len (l : List Int) (s : Int) (k : Nat) : (X.mov l s k).length = k := by unfold X.mov; simp
theorem X.back_get (l : List Int) {k i : Nat} (h : i < k) : (X.back l k).getD i 0 = 60 - l.getD (l.length - 1 - i) 0 := by
  unfold X.back; rw [List.getD_eq_getElem?_getD]; simp [h]
theorem X.mov_get (l : List Int) (s : Int) {k i : Nat} (h : i < k) : (X.mov l s k).getD i 0 = l.getD i 0 + s := by
  unfold X.mov; rw [List.getD_eq_getElem?_getD]; simp [h]
theorem X.back_ok {l : List Int} (hok : X.Ok l) : X.Ok (X.back l l.length) := by
  have h2 := hok.two
  refine ⟨⟨fun i hi => ?_, fun i hi => ?_, fun i k hik hk => ?_⟩, by rw [X.back_len]; exact hok.two, by rw [X.back_len]; exact hok.eight⟩
  · rw [X.back_len] at hi
    rw [X.back_get l hi]
    have := hok.up.hi (l.length - 1 - i) (by omega)
    omega
  · rw [X.back_len] at hi
    rw [X.back_get l hi]
    have := hok.up.lo (l.length - 1 - i) (by omega)
    omega
  · rw [X.back_len] at hk
    rw [X.back_get l hk, X.back_get l (by omega)]
    have := hok.up.lt (l.length - 1 - k) (l.length - 1 - i) (by omega) (by omega)
    omega
theorem X.back_sim {l : List Int} (hok : X.Ok l) : X.Sim l (X.back l l.length) (X.mi l.length) := by
  have h2 := hok.two
  refine ⟨X.back_len _ _, ?_, fun p h1 h3 => ?_⟩
  · unfold X.lng
    rw [X.back_len, X.back_get l (by omega), X.back_get l (by omega), show l.length - 1 - (l.length - 1) = 0 by omega, Nat.sub_zero]
    congr 1
    omega
  · obtain ⟨i, k⟩ := p
    unfold X.mi X.dis
    dsimp only at *
    refine ⟨by omega, by omega, ?_, by rw [show l.length - 1 - (l.length - 1 - i) = i by omega, show l.length - 1 - (l.length - 1 - k) = k by omega]⟩
    rw [X.back_get l (by omega), X.back_get l (by omega), show l.length - 1 - (l.length - 1 - i) = i by omega, show l.length - 1 - (l.length - 1 - k) = k by omega]
    congr 1
    omega
theorem X.mov_ok {l : List Int} {s : Int} (hok : X.Ok l) (h0 : 0 ≤ s) (h1 : l.getD (l.length - 1) 0 + s ≤ 60) : X.Ok (X.mov l s l.length) := by
  have h2 := hok.two
  refine ⟨⟨fun i hi => ?_, fun i hi => ?_, fun i k hik hk => ?_⟩, by rw [X.mov_len]; exact hok.two, by rw [X.mov_len]; exact hok.eight⟩
  · rw [X.mov_len] at hi
    rw [X.mov_get l s hi]
    have := hok.up.lo i hi
    omega
  · rw [X.mov_len] at hi
    rw [X.mov_get l s hi]
    by_cases e : i = l.length - 1
    · rw [e]; exact h1
    · have := hok.up.lt i (l.length - 1) (by omega) (by omega)
      omega
  · rw [X.mov_len] at hk
    rw [X.mov_get l s hk, X.mov_get l s (by omega)]
    have := hok.up.lt i k hik hk
    omega
theorem X.mov_sim {l : List Int} {s : Int} (hok : X.Ok l) : X.Sim l (X.mov l s l.length) id := by
  have h2 := hok.two
  refine ⟨X.mov_len _ _ _, ?_, fun p h1 h3 => ?_⟩
  · unfold X.lng
    rw [X.mov_len, X.mov_get l s (by omega), X.mov_get l s (by omega)]
    congr 1
    omega
  · obtain ⟨i, k⟩ := p
    unfold X.dis
    dsimp only [id] at *
    refine ⟨h1, h3, ?_, rfl⟩
    rw [X.mov_get l s h3, X.mov_get l s (by omega)]
    congr 1
    omega
theorem X.best_sim {l m : List Int} {f : Nat × Nat → Nat × Nat} (h : X.Sim l m f) (h1 : X.Ok l) (h2 : X.Ok m) : X.best m = X.best l := by
  unfold X.best
  rw [X.chk_zero.2 h1, X.chk_zero.2 h2, h.clr, h.len, h.lng]
theorem X.twV_ok {l : List Int} (hok : X.Ok l) : ∃ p r : Nat × Nat, X.twV l = .tuple #[X.pv p, X.pv r, .int .i64 (if X.clr l = true then 5 else 0)] := by
  refine ⟨X.o1 (X.tw (X.dis l) (X.prs l)), X.o2 (X.tw (X.dis l) (X.prs l)), ?_⟩
  unfold X.twV X.ret2
  rw [if_pos (X.chk_zero.2 hok)]
  have : X.pas (X.o1 (X.tw (X.dis l) (X.prs l))) (X.o2 (X.tw (X.dis l) (X.prs l))) = if X.clr l = true then 5 else 0 := by
    unfold X.clr
    cases h : X.tw (X.dis l) (X.prs l) with
    | none => rfl
    | some x =>
      obtain ⟨p, q⟩ := x
      have := X.tw_ne (X.from_pw _ _) h
      unfold X.pas X.o1 X.o2
      dsimp only
      rw [if_neg this]
      rfl
  rw [this]
theorem X.dist_len {l : List Int} (hok : X.Ok l) : (X.sf l true (X.lng l)).length ≤ 1000 := by
  have h1 := X.sf_len l true (X.lng l)
  have h2 := hok.up.hi (l.length - 1) (by have := hok.two; omega)
  have h3 := hok.up.lo 0 (by have := hok.two; omega)
  unfold X.lng at h1 ⊢
  omega
/-- What the law asks of a rule. -/
structure X.Like (l m : List Int) : Prop where
  ok : X.Ok m
  len : m.length = l.length
  sf : X.sf m true (X.lng m) = X.sf l true (X.lng l)
  clr : X.clr m = X.clr l
  best : X.best m = X.best l
theorem X.like_back {l : List Int} (hok : X.Ok l) : X.Like l (X.back l l.length) :=
  have h := X.back_sim hok
  ⟨X.back_ok hok, h.len, by rw [h.lng, h.sf], h.clr, X.best_sim h hok (X.back_ok hok)⟩
theorem X.like_mov {l : List Int} {s : Int} (hok : X.Ok l) (h0 : 0 ≤ s) (h1 : l.getD (l.length - 1) 0 + s ≤ 60) : X.Like l (X.mov l s l.length) :=
  have h := X.mov_sim (s := s) hok
  ⟨X.mov_ok hok h0 h1, h.len, by rw [h.lng, h.sf], h.clr, X.best_sim h hok (X.mov_ok hok h0 h1)⟩
end Go.Proofs.Ythaoacnaeafbeaa
