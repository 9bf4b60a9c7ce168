/- Package mark: commonCopy's closure, slices.IndexFunc. -/
import Derived.Test.YthnklabdjaiplaaDoorMHas
import Derived.Test.YthnklabdjaiplaaDoorMHeld
import Derived.Test.YthnklabdjaiplaaDoorMChk
import Derived.OwnWalkIn
namespace Go.Proofs.YthnklabdjaiplaaDoor
open Go.RowKit
attribute [local go_sem] Oper.semAt_some

set_option maxHeartbeats 1000000 in
set_option maxRecDepth 20000 in
/-- Has customer x a mark at the place that will do? -/
theorem copyClo_any (m : Int) (a : Option Addr) (c : Nat) (T : List (List Int)) (cb pb gb : Nat) (s : Nat → Nat) (p : Nat) (x : Int) (w : World) (hok : M.Ok m T) (hs : ∀ j, s j < 16) (hp : p < M.pl T) (hx : 0 ≤ x ∧ x < T.length) (hT : RdM w a T)
    (hc : w.rowIs cb 79 8 (M.ac s)) (hpb : w.cell? ⟨pb, 0, none⟩ = some (.int .i64 (p : Nat))) (hg : w.cell? ⟨gb, 1, none⟩ = some (.slice a T.length c)) :
    Calls Tryd.prog 80 #[.int .i64 x, .pointer (some ⟨cb, 0, none⟩), .pointer (some ⟨pb, 0, none⟩), .pointer (some ⟨gb, 0, none⟩)] w fun e w' => e = .returned (.bool ((s p).testBit (M.mk T x p).toNat)) ∧ Below w.heap.size w w' := by
  refine (callsIn_wide (n := 3)).1 ?_
  obtain ⟨k, hk⟩ : ∃ k : Nat, x = (k : Int) := ⟨x.toNat, by omega⟩
  subst hk
  have hkT : k < T.length := by omega
  obtain ⟨b2, o2, r2, cr2, rfl, hck, hrk⟩ := M.row hT hkT
  have hlk := hok.len k hkT
  obtain ⟨b3, o3, rfl, hcn⟩ := M.num hrk (show p < (T.getD k []).length by omega)
  rw [hlk] at hck
  have hrg := hok.rng k p hkT hp
  have hp8 := hok.p8
  have hm4 := hok.m4
  have hmk : M.mk T (k : Int) p = (T.getD k []).getD p 0 := by unfold M.mk; rw [Int.toNat_natCast]
  rw [hmk]
  generalize (T.getD k []).getD p 0 = y at *
  have HH := hid (fun w => has_any s p y w (by omega) (by omega) hs)
  unfold M.av at HH
  obtain ⟨c0, c1, c2, c3, c4, c5, c6, c7⟩ := M.c8 hc
  obtain ⟨SX, hSXe⟩ : ∃ SX : World → Prop, SX = fun w' => ∀ i, i < w.heap.size → w'.heap[i]? = w.heap[i]? := ⟨_, rfl⟩
  have hSf : ∀ w', SX w' → ∀ b o v, w.cell? ⟨b, o, none⟩ = some v → w'.cell? ⟨b, o, none⟩ = some v := fun w' h b o v hv => by
    rw [hSXe] at h
    exact (World.cell?_of_block (h b (World.block_lt_of_cell? _ _ hv))).trans hv
  have hSX : SX w.drew := by rw [hSXe]; exact fun _ _ => rfl
  have hmix : Tryd.prog.follows .mixedOrders = true := by kernel_rfl
  have hi1 : (0 : Int) ≤ (k : Int) ∧ (k : Int) < (T.length : Int) := by omega
  have hi2 : (0 : Int) ≤ (p : Int) ∧ (p : Int) < (M.pl T : Int) := by omega
  clear hok hs hT hc hrk hlk hmk hrg hm4 hx hkT hp
  refine callsIn_of_wp Tryd.func80 rfl trivial ?_ rfl
  simp only [Tryd.ntmps80, List.size_toArray, List.length_cons, List.length_nil, Nat.reduceAdd, Nat.reduceSub, Array.replicate_succ, Array.replicate_zero, List.push_toArray, List.append_toArray, List.nil_append, List.cons_append]
  gi_wp2_with fail
  refine M.region SX hmix ?_
  refine M.anyS.take (i := 0) (v := ?_) rfl (by kernel_rfl) (by kernel_rfl) (by kernel_rfl) (by kernel_rfl) (fun _ _ _ h => h) ⟨by rfl, ?_, fun _ => rfl⟩ hSX ?_
  rotate_left
  · intro w' hw
    have f0 := hSf w' hw _ _ _ c0
    have f1 := hSf w' hw _ _ _ c1
    have f2 := hSf w' hw _ _ _ c2
    have f3 := hSf w' hw _ _ _ c3
    have f4 := hSf w' hw _ _ _ c4
    have f5 := hSf w' hw _ _ _ c5
    have f6 := hSf w' hw _ _ _ c6
    have f7 := hSf w' hw _ _ _ c7
    have f8 := hSf w' hw _ _ _ hpb
    have f9 := hSf w' hw _ _ _ hg
    have g0 := hSf w' hw _ _ _ hck
    have g1 := hSf w' hw _ _ _ hcn
    go_simp
    try with_reducible rfl
  refine M.anyS.take (i := 1) (v := ?_) rfl (by kernel_rfl) (by kernel_rfl) (by kernel_rfl) (by kernel_rfl) (fun _ _ _ h => h) ⟨by rfl, ?_, fun _ => rfl⟩ hSX ?_
  rotate_left
  · intro w' hw
    have f0 := hSf w' hw _ _ _ c0
    have f1 := hSf w' hw _ _ _ c1
    have f2 := hSf w' hw _ _ _ c2
    have f3 := hSf w' hw _ _ _ c3
    have f4 := hSf w' hw _ _ _ c4
    have f5 := hSf w' hw _ _ _ c5
    have f6 := hSf w' hw _ _ _ c6
    have f7 := hSf w' hw _ _ _ c7
    have f8 := hSf w' hw _ _ _ hpb
    have f9 := hSf w' hw _ _ _ hg
    have g0 := hSf w' hw _ _ _ hck
    have g1 := hSf w' hw _ _ _ hcn
    go_simp
    try with_reducible rfl
  refine M.anyS.take (i := 2) (v := ?_) rfl (by kernel_rfl) (by kernel_rfl) (by kernel_rfl) (by kernel_rfl) (fun _ _ _ h => h) ⟨by rfl, ?_, fun _ => rfl⟩ hSX ?_
  rotate_left
  · intro w' hw
    have f0 := hSf w' hw _ _ _ c0
    have f1 := hSf w' hw _ _ _ c1
    have f2 := hSf w' hw _ _ _ c2
    have f3 := hSf w' hw _ _ _ c3
    have f4 := hSf w' hw _ _ _ c4
    have f5 := hSf w' hw _ _ _ c5
    have f6 := hSf w' hw _ _ _ c6
    have f7 := hSf w' hw _ _ _ c7
    have f8 := hSf w' hw _ _ _ hpb
    have f9 := hSf w' hw _ _ _ hg
    have g0 := hSf w' hw _ _ _ hck
    have g1 := hSf w' hw _ _ _ hcn
    go_simp
    try with_reducible rfl
  refine M.anyS.take (i := 3) (v := ?_) rfl (by kernel_rfl) (by kernel_rfl) (by kernel_rfl) (by kernel_rfl) (fun _ _ _ h => h) ⟨by rfl, ?_, fun _ => rfl⟩ hSX ?_
  rotate_left
  · intro w' hw
    have f0 := hSf w' hw _ _ _ c0
    have f1 := hSf w' hw _ _ _ c1
    have f2 := hSf w' hw _ _ _ c2
    have f3 := hSf w' hw _ _ _ c3
    have f4 := hSf w' hw _ _ _ c4
    have f5 := hSf w' hw _ _ _ c5
    have f6 := hSf w' hw _ _ _ c6
    have f7 := hSf w' hw _ _ _ c7
    have f8 := hSf w' hw _ _ _ hpb
    have f9 := hSf w' hw _ _ _ hg
    have g0 := hSf w' hw _ _ _ hck
    have g1 := hSf w' hw _ _ _ hcn
    go_simp
    try with_reducible rfl
  refine M.anyS.take (i := 4) (v := ?_) rfl (by kernel_rfl) (by kernel_rfl) (by kernel_rfl) (by kernel_rfl) (fun _ _ _ h => h) ⟨by rfl, ?_, fun _ => rfl⟩ hSX ?_
  rotate_left
  · intro w' hw
    have f0 := hSf w' hw _ _ _ c0
    have f1 := hSf w' hw _ _ _ c1
    have f2 := hSf w' hw _ _ _ c2
    have f3 := hSf w' hw _ _ _ c3
    have f4 := hSf w' hw _ _ _ c4
    have f5 := hSf w' hw _ _ _ c5
    have f6 := hSf w' hw _ _ _ c6
    have f7 := hSf w' hw _ _ _ c7
    have f8 := hSf w' hw _ _ _ hpb
    have f9 := hSf w' hw _ _ _ hg
    have g0 := hSf w' hw _ _ _ hck
    have g1 := hSf w' hw _ _ _ hcn
    go_simp
    try with_reducible rfl
  refine M.anyS.take (i := 5) (v := ?_) rfl (by kernel_rfl) (by kernel_rfl) (by kernel_rfl) (by kernel_rfl) (fun _ _ _ h => h) ⟨by rfl, ?_, fun _ => rfl⟩ hSX ?_
  rotate_left
  · intro w' hw
    have f0 := hSf w' hw _ _ _ c0
    have f1 := hSf w' hw _ _ _ c1
    have f2 := hSf w' hw _ _ _ c2
    have f3 := hSf w' hw _ _ _ c3
    have f4 := hSf w' hw _ _ _ c4
    have f5 := hSf w' hw _ _ _ c5
    have f6 := hSf w' hw _ _ _ c6
    have f7 := hSf w' hw _ _ _ c7
    have f8 := hSf w' hw _ _ _ hpb
    have f9 := hSf w' hw _ _ _ hg
    have g0 := hSf w' hw _ _ _ hck
    have g1 := hSf w' hw _ _ _ hcn
    go_simp
    try with_reducible rfl
  refine M.anyS.take (i := 6) (v := ?_) rfl (by kernel_rfl) (by kernel_rfl) (by kernel_rfl) (by kernel_rfl) (fun _ _ _ h => h) ⟨by rfl, ?_, fun _ => rfl⟩ hSX ?_
  rotate_left
  · intro w' hw
    have f0 := hSf w' hw _ _ _ c0
    have f1 := hSf w' hw _ _ _ c1
    have f2 := hSf w' hw _ _ _ c2
    have f3 := hSf w' hw _ _ _ c3
    have f4 := hSf w' hw _ _ _ c4
    have f5 := hSf w' hw _ _ _ c5
    have f6 := hSf w' hw _ _ _ c6
    have f7 := hSf w' hw _ _ _ c7
    have f8 := hSf w' hw _ _ _ hpb
    have f9 := hSf w' hw _ _ _ hg
    have g0 := hSf w' hw _ _ _ hck
    have g1 := hSf w' hw _ _ _ hcn
    go_simp
    try with_reducible rfl
  refine M.anyS.take (i := 7) (v := ?_) rfl (by kernel_rfl) (by kernel_rfl) (by kernel_rfl) (by kernel_rfl) (fun _ _ _ h => h) ⟨by rfl, ?_, fun _ => rfl⟩ hSX ?_
  rotate_left
  · intro w' hw
    have f0 := hSf w' hw _ _ _ c0
    have f1 := hSf w' hw _ _ _ c1
    have f2 := hSf w' hw _ _ _ c2
    have f3 := hSf w' hw _ _ _ c3
    have f4 := hSf w' hw _ _ _ c4
    have f5 := hSf w' hw _ _ _ c5
    have f6 := hSf w' hw _ _ _ c6
    have f7 := hSf w' hw _ _ _ c7
    have f8 := hSf w' hw _ _ _ hpb
    have f9 := hSf w' hw _ _ _ hg
    have g0 := hSf w' hw _ _ _ hck
    have g1 := hSf w' hw _ _ _ hcn
    go_simp
    try with_reducible rfl
  refine M.anyS.take (i := 8) (v := ?_) rfl (by kernel_rfl) (by kernel_rfl) (by kernel_rfl) (by kernel_rfl) (fun _ _ _ h => h) ⟨by rfl, ?_, fun _ => rfl⟩ hSX ?_
  rotate_left
  · intro w' hw
    have f0 := hSf w' hw _ _ _ c0
    have f1 := hSf w' hw _ _ _ c1
    have f2 := hSf w' hw _ _ _ c2
    have f3 := hSf w' hw _ _ _ c3
    have f4 := hSf w' hw _ _ _ c4
    have f5 := hSf w' hw _ _ _ c5
    have f6 := hSf w' hw _ _ _ c6
    have f7 := hSf w' hw _ _ _ c7
    have f8 := hSf w' hw _ _ _ hpb
    have f9 := hSf w' hw _ _ _ hg
    have g0 := hSf w' hw _ _ _ hck
    have g1 := hSf w' hw _ _ _ hcn
    go_simp
    try with_reducible rfl
  refine M.anyS.take (i := 9) (v := ?_) rfl (by kernel_rfl) (by kernel_rfl) (by kernel_rfl) (by kernel_rfl) (fun _ _ _ h => h) ⟨by rfl, ?_, fun _ => rfl⟩ hSX ?_
  rotate_left
  · intro w' hw
    have f0 := hSf w' hw _ _ _ c0
    have f1 := hSf w' hw _ _ _ c1
    have f2 := hSf w' hw _ _ _ c2
    have f3 := hSf w' hw _ _ _ c3
    have f4 := hSf w' hw _ _ _ c4
    have f5 := hSf w' hw _ _ _ c5
    have f6 := hSf w' hw _ _ _ c6
    have f7 := hSf w' hw _ _ _ c7
    have f8 := hSf w' hw _ _ _ hpb
    have f9 := hSf w' hw _ _ _ hg
    have g0 := hSf w' hw _ _ _ hck
    have g1 := hSf w' hw _ _ _ hcn
    go_simp
    try with_reducible rfl
  refine M.anyS.one (i := 10) (by kernel_rfl) rfl (fun K hK => ?_)
  go_simp
  first | refine ⟨trivial, fun _ => by omega, ?_⟩ | refine ⟨trivial, ?_⟩
  refine (callsIn_wide.2 (HH.out _)).mono ?_
  rintro e w3 ⟨rfl, hb3⟩
  have hS3 : SX w3 := by
    rw [hSXe]
    exact fun i hi => hb3.block i hi
  have HB3 := hid ((Below.refl w.heap.size w).drew.trans hb3)
  refine hK _ _ hS3 ?_
  clear hK K hb3
  refine M.anyS.one (i := 11) (by kernel_rfl) rfl (fun K hK => ?_)
  go_simp
  refine hK _ _ hS3 ?_
  clear hK K
  refine M.anyS.done (by kernel_rfl) ?_ _
  gi_wp2
  go_ret
  exact ⟨rfl, HB3.out⟩

/-- The first place where a condition holds, or -1. -/
def M.ixf (q : Int → Bool) (l : List Int) : Int := match (List.range l.length).find? fun i => q (l.getD i 0) with
  | some i => (i : Nat)
  | none => -1
theorem M.ixf_at {q : Int → Bool} {l : List Int} {k : Nat} (h1 : k < l.length) (h2 : q (l.getD k 0) = true) (h3 : ∀ j, j < k → q (l.getD j 0) = false) : M.ixf q l = (k : Nat) := by
  unfold M.ixf
  have : (List.range l.length).find? (fun i => q (l.getD i 0)) = some k := by
    rw [List.find?_range_eq_some]
    exact ⟨h2, by simpa using h1, fun j hj => by rw [h3 j hj]; rfl⟩
  rw [this]
theorem M.ixf_none {q : Int → Bool} {l : List Int} (h3 : ∀ j, j < l.length → q (l.getD j 0) = false) : M.ixf q l = -1 := by
  unfold M.ixf
  have : (List.range l.length).find? (fun i => q (l.getD i 0)) = none := by
    rw [List.find?_range_eq_none]
    exact fun j hj => by rw [h3 j hj]; rfl
  rw [this]

set_option maxHeartbeats 1000000 in
theorem indexFunc_any (a : Option Addr) (c : Nat) (l : List Int) (cb pb gb : Nat) (q : Int → Bool) (w : World) (hm : l.length ≤ maxLen) (hl : RdI w a l)
    (hF : ∀ k, k < l.length → ∀ w', Below w.heap.size w w' → Calls Tryd.prog 80 #[.int .i64 (l.getD k 0), .pointer (some ⟨cb, 0, none⟩), .pointer (some ⟨pb, 0, none⟩), .pointer (some ⟨gb, 0, none⟩)] w' fun e w'' => e = .returned (.bool (q (l.getD k 0))) ∧ Below w'.heap.size w' w'') :
    Calls Tryd.prog 79 #[.slice a l.length c, .func (.func 80) #[] #[.pointer (some ⟨cb, 0, none⟩), .pointer (some ⟨pb, 0, none⟩), .pointer (some ⟨gb, 0, none⟩)]] w fun e w' => e = .returned (.int .i64 (M.ixf q l)) ∧ Below w.heap.size w w' := by
  unfold maxLen at hm
  have HL := hid hl
  have HF := hid hF
  have HAT := hid (fun k h1 h2 h3 => M.ixf_at (q := q) (l := l) (k := k) h1 h2 h3)
  have HNO := hid (fun h => M.ixf_none (q := q) (l := l) h)
  generalize M.ixf q l = r at *
  clear hl hF
  go_enter Tryd.func79, Tryd.ntmps79
  go_wp2
  go_loopw [8] (fun i wr => ∃ k : Nat, k ≤ l.length ∧ i = .int .i64 k ∧ (∀ j, j < k → q (l.getD j 0) = false) ∧ Below w.heap.size w wr) (fun i _ => l.length - (intOf i).toNat)
  case atStart => exact ⟨0, Nat.zero_le _, rfl, fun j hj => absurd hj (Nat.not_lt_zero _), Below.refl _ _⟩
  case round =>
    obtain ⟨k, hk, rfl, hno, hb⟩ := hrel
    have HN := hid hno
    have HB := hid hb
    have HLR := hid (HL.out.stays hb)
    clear hno hb
    by_cases hlt : k < l.length
    · obtain ⟨b2, o2, rfl, hck⟩ := M.num HLR.out hlt
      have HC := hid (HF.out k hlt wr HB.out)
      have HA := hid (fun h => HAT.out k hlt h HN.out)
      have HNX : Hid (q (l.getD k 0) = false → ∀ j, j < k + 1 → q (l.getD j 0) = false) := hid (fun h j hj => by
        rcases Nat.lt_succ_iff_lt_or_eq.1 hj with h1 | rfl
        · exact HN.out j h1
        · exact h)
      generalize l.getD k 0 = x at *
      cases hq : q x with
      | true =>
        have HE := hid (HA.out hq)
        rw [hq] at HC
        clear hq
        go_wp2_with (refine HC.out.mono ?_; rintro e w9 ⟨rfl, hb9⟩; replace hb9 := hid hb9)
        go_ret
        exact ⟨ret_int HE.out.symm, HB.out.trans (hb9.out.mono HB.out.size)⟩
      | false =>
        have HE := hid (HNX.out hq)
        rw [hq] at HC
        clear hq
        go_wp2_with (refine HC.out.mono ?_; rintro e w9 ⟨rfl, hb9⟩; replace hb9 := hid hb9)
        go_roundw
        case rel => exact ⟨k + 1, by omega, by go_num, HE.out, HB.out.trans (hb9.out.mono HB.out.size)⟩
        case measure => simp [intOf]; omega
    · have hke : k = l.length := by omega
      subst hke
      have HE := hid (HNO.out HN.out)
      go_wp2
      go_ret
      exact ⟨ret_int HE.out.symm, HB.out⟩
end Go.Proofs.YthnklabdjaiplaaDoor
