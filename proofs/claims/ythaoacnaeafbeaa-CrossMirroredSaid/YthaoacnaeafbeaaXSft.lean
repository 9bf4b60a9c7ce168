/- Package cross: the walks of sift, Distances, Missing. -/
import Derived.Test.YthaoacnaeafbeaaXClr
import Derived.Test.YthaoacnaeafbeaaXPQ
import Derived.Test.YthaoacnaeafbeaaXRow
namespace Go.Proofs.Ythaoacnaeafbeaa
open Go.RowKit

/-- The numbers up to k that are distances, or are none. -/
def X.sf (l : List Int) (b : Bool) (k : Nat) : List Int := ((List.range k).filter fun i => X.has (X.dis l) (X.prs l) (i + 1) == b).map fun i => ((i + 1 : Nat) : Int)
theorem X.sf_succ (l : List Int) (b : Bool) (k : Nat) : X.sf l b (k + 1) = X.sf l b k ++ (if (X.has (X.dis l) (X.prs l) (k + 1) == b) = true then [((k + 1 : Nat) : Int)] else []) := by
  unfold X.sf
  rw [List.range_succ, List.filter_append, List.map_append, List.filter_cons, List.filter_nil]
  by_cases h : (X.has (X.dis l) (X.prs l) (k + 1) == b) = true
  · rw [if_pos h, if_pos h]; rfl
  · rw [if_neg h, if_neg h]; rfl
theorem X.sf_len (l : List Int) (b : Bool) (k : Nat) : (X.sf l b k).length ≤ k := by
  unfold X.sf
  rw [List.length_map]
  exact Nat.le_trans (List.length_filter_le _ _) (by simp)
/-- The length of a rule. -/
def X.lng (l : List Int) : Nat := (l.getD (l.length - 1) 0 - l.getD 0 0).toNat

set_option maxHeartbeats 400000 in
theorem sft1_any (p q : Nat × Nat) (w : World) :
    Calls Try.prog 71 (#[X.pv p, X.pv q] ++ #[]) w fun e w' => e = .returned (.tuple #[]) ∧ True ∧ X.Exc (fun _ => False) w w' := by
  obtain ⟨p1, p2⟩ := p
  obtain ⟨q1, q2⟩ := q
  show Calls Try.prog 71 #[.agg #[.int .i64 (p1 : Nat), .int .i64 (p2 : Nat)], .agg #[.int .i64 (q1 : Nat), .int .i64 (q2 : Nat)]] w _
  have HE := hid (((X.Exc.refl (fun _ => False) w).alloc (.cells #[.int .i64 (p1 : Nat), .int .i64 (p2 : Nat)] 24)).alloc (.cells #[.int .i64 (q1 : Nat), .int .i64 (q2 : Nat)] 24))
  go_enter Try.func71, Try.ntmps71
  go_wp2
  go_end0
  exact ⟨rfl, trivial, HE.out⟩

set_option maxHeartbeats 4000000 in
set_option maxRecDepth 100000 in
theorem sift_any (a : Option Addr) (c : Nat) (l : List Int) (b : Bool) (w : World) (hl : RdI w a l) (hok : X.Ok l) :
    Calls Try.prog 49 #[.slice a l.length c, .bool b] w fun e w' => ∃ v, e = .returned v ∧ RowI w' w.heap.size v (X.sf l b (X.lng l)) ∧ Below w.heap.size w w' := by
  have h2 := hok.two
  have h8 := hok.eight
  obtain ⟨bb, o, rfl, _⟩ := X.num hl (show 0 < l.length by omega)
  obtain ⟨i0, hi, hz0, hz1, hz2⟩ := info_parts (show (Try.prog.info? 3).map (fun i => (i.zero, i.size, i.bytes)) = some (some (.int .i64 0), 1, 8) by kernel_rfl)
  have HMP := hid (meetPairs_any bb o c l 71 #[] (fun _ => False) (fun _ _ => True) w hl hok (fun _ h => h.elim) (fun h => h) (fun _ _ => rfl) (fun _ _ _ _ _ _ => trivial) trivial (fun _ p q W _ _ => sft1_any p q W))
  have HL := hid hl
  have HOK := hid hok
  have HRG := hok.rng (show 0 < l.length - 1 by omega) (by omega)
  have HLN : Hid (l.getD (l.length - 1) 0 - l.getD 0 0 = (X.lng l : Int) ∧ X.lng l ≤ 60) := hid (by unfold X.lng; omega)
  have HLG := hid (fun W (h : Below w.heap.size w W) => length_any (some ⟨bb, o, none⟩) c l W (hl.stays h) hok)
  rw [HLN.out.1] at HLG
  have HSU := hid (fun k => X.sf_succ l b k)
  have HSL := hid (fun k => X.sf_len l b k)
  have HS0 : Hid (X.sf l b 0 = []) := hid rfl
  have HNE : Hid (∀ p ∈ X.prs l, p.1 ≠ p.2) := hid (fun p hp => by
    have := (X.mem_from.1 hp).2.2.2
    unfold X.up at this; simp at this; omega)
  generalize X.sf l b = F at *
  obtain ⟨L, hL⟩ : ∃ L, X.lng l = L := ⟨_, rfl⟩
  rw [hL] at HLG HLN ⊢
  generalize X.dis l = D at *
  generalize X.prs l = S at *
  clear hl hok HRG hL
  have hL60 := HLN.out.2
  go_enter Try.func49, Try.ntmps49
  go_wp2_with fail
  refine HMP.out.mono ?_
  rintro e w1 ⟨m, rfl, hm1, hm2, -, he⟩
  have HB1 : Hid (Below w.heap.size w w1) := hid (he.below (Nat.le_refl _) (fun _ _ h => h.elim))
  have HM1 := hid hm1
  have HM2 := hid hm2
  have HONE : Hid ((m.all fun x => x.oneCell') = true) := hid (by
    rw [Array.all_eq_true]
    intro j hj
    have := hm2 j (by omega)
    rw [Array.getElem?_eq_getElem hj] at this
    rw [Option.some.inj this]
    rfl)
  have hg1 := heap_alloc_new w1 (.cells Try.zeroCells61 61)
  clear hm1 hm2 he
  go_wp2_with (refine wpList_store_row rfl 61 _ _ rfl w1.heap.size _ rfl rfl 61 _ hg1 ?q1 ?q2 ?q3 ?_)
  case q1 => rw [HM1.out]; kernel_rfl
  case q2 => rw [HM1.out]; kernel_rfl
  case q3 => exact HONE.out
  have HMA : Hid (X.MetAt ((w1.alloc (.cells Try.zeroCells61 61)).setRow w1.heap.size m) w1.heap.size D S) := hid ⟨m, setRow_heap _ _ _ _ _ _ hg1, HM1.out, HM2.out⟩
  have HB2 : Hid (Below w.heap.size w ((w1.alloc (.cells Try.zeroCells61 61)).setRow w1.heap.size m)) := hid (below_setRow (HB1.out.alloc HB1.out.size _) HB1.out.size m)
  have hsz1 := HB1.out.size
  generalize (w1.alloc (.cells Try.zeroCells61 61)).setRow w1.heap.size m = w2 at *
  clear hg1
  have hB2 : w1.heap.size < w2.heap.size := HMA.out.lt
  have HHA := hid (fun (k : Nat) (hk : k + 1 ≤ 60) (W : World) (h : Below w2.heap.size w2 W) => has_any w1.heap.size D S (k + 1) W (HMA.out.of_block (h.block _ HMA.out.lt)) hk HNE.out)
  have HLH := hid (fun W (h : Below w2.heap.size w2 W) => HLG.out W (HB2.out.trans (h.mono HB2.out.size)))
  clear HMA HLG
  go_wp2_with fail
  go_loopw [5, 7] (fun v s wr => ∃ k : Nat, k ≤ L ∧ s = .int .i64 ((k : Int) + 1) ∧ RowI wr w2.heap.size v (F k) ∧ Below w2.heap.size w2 wr) (fun _ s _ => L + 1 - (intOf s).toNat)
  case atStart => exact ⟨0, Nat.zero_le _, by go_num, by rw [HS0.out]; exact RowI.nil _ _, Below.refl _ _⟩
  case round => as_aux_lemma =>
    obtain ⟨k, hk, rfl, hown, hb⟩ := hrel
    have HOW := hid hown
    have HBW := hid hb
    have HLW := hid (HLH.out wr hb)
    clear hown hb
    by_cases hlt : k < L
    · have hle : ((k : Int) + 1 ≤ (L : Int)) := by omega
      have HHW := hid (fun q => HHA.out k (by omega) (wr.drewN q) (below_drewN HBW.out q))
      have HSK := hid (HSU.out k)
      have hfl := HSL.out k
      rw [show (((k + 1 : Nat)) : Int) = (k : Int) + 1 from rfl] at HHW HSK
      generalize X.has D S (k + 1) = h at *
      by_cases hhb : h = b
      · subst hhb
        have hbb : (h == h) = true := by simp
        have HSK2 : Hid (F (k + 1) = F k ++ [(k : Int) + 1]) := hid (by rw [HSK.out, if_pos (by simp)])
        have HM1' : Hid ((F k).length + 1 ≤ maxLen) := hid (by unfold maxLen; omega)
        have HM2' : Hid (((F k).length + 1) * 8 ≤ 140737488355328) := hid (by omega)
        generalize F k = G at *
        go_wp2_with fail
        refine HLW.out.mono ?_
        rintro e w3 ⟨rfl, q, rfl⟩
        go_wp2_with fail
        refine (HHW.out _).mono ?_
        rintro e w4 ⟨rfl, rfl⟩
        have HO5 := hid (RowI.stays HOW.out (below_drewN (Below.refl _ _) q))
        have HB5 := hid (below_drewN HBW.out q)
        generalize wr.drewN q = w5 at *
        go_wp2_with (at_builtin; refine wpList_append_own _ rfl _ _ 22 rfl w2.heap.size 3 i0 (.int .i64 0) 1 8 Try.underlying22 hi hz0 hz1 hz2 rfl (by decide) _ _ _ rfl (World.ownsRow.alloc HO5.out _) ⟨w5.heap.size, 0, none⟩ 1 1 [.int .i64 ((k : Int) + 1)] rfl rfl (X.Lit.one' _ _ _ _ rfl) (by simp [Value.oneCell']) HM1'.out HM2'.out (Nat.le_trans HB5.out.size (by simp)) ?_; intro v' w9 hown' hgrow _)
        have HB9 := hid (Below.grown (HB5.out.alloc HB5.out.size (.cells #[.int .i64 ((k : Int) + 1)] 3)) hgrow (by simp; have := HB5.out.size; omega) (fun q hq => (World.ownsRow.lt HO5.out q hq).1))
        have HO9 := hid (RowI.push hown')
        clear hown' hgrow
        go_wp2
        go_roundw
        case rel => exact ⟨k + 1, by omega, by go_num, by rw [HSK2.out]; exact HO9.out, HB9.out⟩
        case measure => simp [intOf]; omega
      · have hbb : (h == b) = false := by simpa using hhb
        have HSK2 : Hid (F (k + 1) = F k) := hid (by rw [HSK.out, if_neg (by simpa using hhb), List.append_nil])
        go_wp2_with fail
        refine HLW.out.mono ?_
        rintro e w3 ⟨rfl, q, rfl⟩
        go_wp2_with fail
        refine (HHW.out _).mono ?_
        rintro e w4 ⟨rfl, rfl⟩
        have HO5 := hid (RowI.stays HOW.out (below_drewN (Below.refl _ _) q))
        have HB5 := hid (below_drewN HBW.out q)
        generalize wr.drewN q = w5 at *
        go_wp2
        go_roundw
        case rel => exact ⟨k + 1, by omega, by go_num, by rw [HSK2.out]; exact HO5.out, HB5.out⟩
        case measure => simp [intOf]; omega
    · have hke : k = L := by omega
      subst hke
      have hle : ¬ ((k : Int) + 1 ≤ (k : Int)) := by omega
      have HOF := hid (RowI.mono HOW.out HB2.out.size)
      have HBF := hid (HB2.out.trans (HBW.out.mono HB2.out.size))
      go_wp2_with fail
      refine HLW.out.mono ?_
      rintro e w3 ⟨rfl, q, rfl⟩
      go_wp2
      go_ret
      exact ⟨_, rfl, RowI.stays HOF.out (below_drewN (Below.refl _ _) q), below_drewN HBF.out q⟩

set_option maxHeartbeats 1000000 in
theorem sift2_any (a : Option Addr) (c : Nat) (l : List Int) (b : Bool) (w : World) (hl : RdI w a l) (hok : X.Ok l) :
    Calls Try.prog 49 #[.slice a l.length c, .bool b] w fun e w' => ∃ x cx, e = .returned (.slice x (X.sf l b (X.lng l)).length cx) ∧ RdI w' x (X.sf l b (X.lng l)) ∧ Below w.heap.size w w' :=
  (sift_any a c l b w hl hok).mono fun e w' ⟨v, h1, h2, h3⟩ => by
    obtain ⟨x, cx, rfl, h4⟩ := h2.rd
    exact ⟨x, cx, h1, h4, h3⟩

/-- A list and an error that are returned. -/
def X.LE (xs : List Int) (er : Int) (w : World) (e : Ending) (w' : World) : Prop := ∃ x cx, e = .returned (.tuple #[.slice x xs.length cx, .int .i64 er]) ∧ RdI w' x xs ∧ Below w.heap.size w w'

set_option maxHeartbeats 1000000 in
theorem distances_any (a : Option Addr) (c : Nat) (l : List Int) (w : World) (hm : l.length ≤ maxLen) (hl : RdI w a l) :
    Calls Try.prog 18 #[.slice a l.length c] w (X.LE (if X.chk l = 0 then X.sf l true (X.lng l) else []) (X.chk l) w) := by
  have HC := hid (check_any a c l w hm hl)
  by_cases h0 : X.chk l = 0
  · have HS := hid (sift2_any a c l true w hl (X.chk_zero.1 h0))
    rw [if_pos h0]
    rw [h0] at HC ⊢
    generalize X.sf l true (X.lng l) = R at *
    clear hl h0
    go_enter Try.func18, Try.ntmps18
    go_wp2_with fail
    refine HC.out.mono ?_
    rintro e w1 ⟨rfl, rfl⟩
    go_wp2_with fail
    refine HS.out.mono ?_
    rintro e w2 ⟨x, cx, rfl, hr, hb⟩
    have HR := hid hr
    have HB := hid hb
    clear hr hb
    go_wp2
    go_ret2
    exact ⟨x, cx, rfl, HR.out, HB.out⟩
  · rw [if_neg h0]
    have hne : (X.chk l != 0) = true := by rw [bne_iff_ne]; exact h0
    generalize X.chk l = z at *
    clear hl h0
    go_enter Try.func18, Try.ntmps18
    go_wp2_with fail
    refine HC.out.mono ?_
    rintro e w1 ⟨rfl, rfl⟩
    go_wp2
    go_ret2
    exact ⟨none, 0, rfl, RdI.nil _ _, Below.refl _ _⟩

set_option maxHeartbeats 1000000 in
theorem missing_any (a : Option Addr) (c : Nat) (l : List Int) (w : World) (hm : l.length ≤ maxLen) (hl : RdI w a l) :
    Calls Try.prog 20 #[.slice a l.length c] w (X.LE (if X.chk l = 0 then X.sf l false (X.lng l) else []) (X.chk l) w) := by
  have HC := hid (check_any a c l w hm hl)
  by_cases h0 : X.chk l = 0
  · have HS := hid (sift2_any a c l false w hl (X.chk_zero.1 h0))
    rw [if_pos h0]
    rw [h0] at HC ⊢
    generalize X.sf l false (X.lng l) = R at *
    clear hl h0
    go_enter Try.func20, Try.ntmps20
    go_wp2_with fail
    refine HC.out.mono ?_
    rintro e w1 ⟨rfl, rfl⟩
    go_wp2_with fail
    refine HS.out.mono ?_
    rintro e w2 ⟨x, cx, rfl, hr, hb⟩
    have HR := hid hr
    have HB := hid hb
    clear hr hb
    go_wp2
    go_ret2
    exact ⟨x, cx, rfl, HR.out, HB.out⟩
  · rw [if_neg h0]
    have hne : (X.chk l != 0) = true := by rw [bne_iff_ne]; exact h0
    generalize X.chk l = z at *
    clear hl h0
    go_enter Try.func20, Try.ntmps20
    go_wp2_with fail
    refine HC.out.mono ?_
    rintro e w1 ⟨rfl, rfl⟩
    go_wp2
    go_ret2
    exact ⟨none, 0, rfl, RdI.nil _ _, Below.refl _ _⟩
end Go.Proofs.Ythaoacnaeafbeaa
