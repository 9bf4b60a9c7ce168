/- Package tuschelaw11: rules by numbers. -/
import Derived.Test.YthaoacnaeafbeaaXRow
import Derived.Test.YthaoacnaeafbeaaXPQ
import Derived.Test.YthaoacnaeafbeaaXPai
import Derived.Test.YthaoacnaeafbeaaXChk
import Derived.Test.YthaoacnaeafbeaaXApp
import Derived.Deep.RegionHeld3
namespace Go.Proofs.Ythaoacnaeafbeaa
open Go.ChangeShapes Go.WideShapes Go.RowKit Go.Deep

/-- The slice with this address reads as these small numbers. -/
def RdU (w : World) (a : Option Addr) (xs : List Nat) : Prop :=
  ∀ k (h : k < xs.length), ∃ b off, a = some ⟨b, off, none⟩ ∧ w.cell? ⟨b, off + k, none⟩ = some (.int .u8 (xs[k] : Nat))
theorem RdU.stays {w w' : World} {a : Option Addr} {xs : List Nat} (h : RdU w a xs) (hb : Below w.heap.size w w') : RdU w' a xs := fun k hk => by
  obtain ⟨b, off, ha, hc⟩ := h k hk
  exact ⟨b, off, ha, cell_stays hb (Nat.le_refl _) hc⟩

/-- A rule that begins at 0, with steps from 1 to a greatest number. -/
structure X.Md (most : Nat) (l : List Int) : Prop where
  zero : l.getD 0 0 = 0
  some : 1 ≤ l.length
  six : l.length ≤ 6
  step : ∀ i, i + 1 < l.length → l.getD i 0 + 1 ≤ l.getD (i + 1) 0 ∧ l.getD (i + 1) 0 ≤ l.getD i 0 + most
theorem X.Md.le {most : Nat} {l : List Int} (h : X.Md most l) : ∀ i, i < l.length → (i : Int) ≤ l.getD i 0 ∧ l.getD i 0 ≤ ((most * i : Nat) : Int)
  | 0, _ => by rw [h.zero]; simp
  | i + 1, hi => by
    have := h.le i (by omega)
    have := h.step i hi
    rw [Nat.mul_add]
    push_cast at *
    omega
theorem X.Md.lt {most : Nat} {l : List Int} (h : X.Md most l) {i : Nat} : ∀ k, i < k → k < l.length → l.getD i 0 < l.getD k 0
  | 0, h1, _ => by omega
  | k + 1, h1, h2 => by
    have := h.step k h2
    by_cases e : i = k
    · subst e; omega
    · have := X.Md.lt (i := i) h k (by omega) (by omega); omega
theorem X.Md.ok {most : Nat} {l : List Int} (h : X.Md most l) (hm : most ≤ 9) (h2 : 2 ≤ l.length) : X.Ok l ∧ l.getD 0 0 = 0 ∧ l.getD (l.length - 1) 0 ≤ 45 := by
  have h6 := h.six
  have hb : ∀ i, i < l.length → l.getD i 0 ≤ 45 := fun i hi => by
    have := (h.le i hi).2
    have : most * i ≤ 9 * 5 := Nat.mul_le_mul hm (by omega)
    omega
  exact ⟨⟨⟨fun i hi => by have := (h.le i hi).1; omega, fun i hi => by have := hb i hi; omega, fun i k => h.lt k⟩, h2, by omega⟩, h.zero, hb _ (by omega)⟩
theorem X.Md.one (most : Nat) : X.Md most [0] := ⟨rfl, by simp, by simp, fun i hi => by simp at hi⟩
theorem X.Md.snoc {most : Nat} {l : List Int} (h : X.Md most l) (h5 : l.length ≤ 5) {x : Int} (h1 : l.getD (l.length - 1) 0 + 1 ≤ x) (h2 : x ≤ l.getD (l.length - 1) 0 + most) : X.Md most (l ++ [x]) := by
  have hs := h.some
  have hg : ∀ i, i < l.length → (l ++ [x]).getD i 0 = l.getD i 0 := fun i hi => by simp [List.getD, List.getElem?_append_left hi]
  have hx : (l ++ [x]).getD l.length 0 = x := by simp [List.getD]
  refine ⟨by rw [hg 0 hs]; exact h.zero, by simp, by simp; omega, fun i hi => ?_⟩
  rw [List.length_append, List.length_singleton] at hi
  by_cases e : i + 1 = l.length
  · rw [e, hx, hg i (by omega), show i = l.length - 1 by omega]
    exact ⟨h1, h2⟩
  · rw [hg _ (by omega), hg _ (by omega)]
    exact h.step i (by omega)

/-- A rule is handed back. -/
def X.MdP (w : World) (e : Ending) (w' : World) : Prop := ∃ (x : Option Addr) (l : List Int) (k : Nat), e = .returned (.slice x l.length k) ∧ RdI w' x l ∧ X.Ok l ∧ l.getD 0 0 = 0 ∧ l.getD (l.length - 1) 0 ≤ 45 ∧ l.length ≤ 6 ∧ Below w.heap.size w w'

set_option maxHeartbeats 800000 in
set_option maxRecDepth 100000 in
theorem made_any (a : Option Addr) (c : Nat) (xs : List Nat) (most : Nat) (w : World) (hl : xs.length ≤ maxLen) (hm : 3 ≤ most ∧ most ≤ 9) (hx : ∀ x ∈ xs, x < 256) (hr : RdU w a xs) :
    Calls Try.prog 39 #[.slice a xs.length c, .int .i64 most] w (X.MdP w) := by
  unfold maxLen at hl
  have HR := hid hr
  have HX := hid hx
  obtain ⟨i0, hi, hz0, hz1, hz2⟩ := X.i1
  clear hr hx
  go_enter Try.func39, Try.ntmps39
  go_wp2_with fail
  generalize hW1 : w.alloc (.cells #[.int .i64 0] 3) = w1
  have HB1 : Hid (Below w.heap.size w w1) := hid (by rw [← hW1]; exact (Below.refl _ _).alloc (Nat.le_refl _) _)
  have HO1 : Hid (RowI w1 w.heap.size (.slice (some ⟨w.heap.size, 0, none⟩) 1 1) [0]) := hid (by rw [← hW1]; exact World.ownsRow_lit w #[.int .i64 0] 1 (Nat.le_refl _) (by decide) rfl)
  clear hW1
  go_loopw [5, 6] (fun v s wr => ∃ (l : List Int) (i : Nat), l.length = i + 1 ∧ i ≤ xs.length ∧ s = .int .i64 (i : Int) ∧ X.Md most l ∧ RowI wr w.heap.size v l ∧ Below w.heap.size w wr) (fun _ s _ => xs.length + 1 - (intOf s).toNat)
  case atStart => exact ⟨[0], 0, rfl, Nat.zero_le _, rfl, X.Md.one _, HO1.out, HB1.out⟩
  case round => as_aux_lemma =>
    obtain ⟨l, i, hli, hix, rfl, hmd, hown, hb⟩ := hrel
    have HMD := hid hmd
    have HBW := hid hb
    have HOW := hid hown
    have h6 := hmd.six
    obtain ⟨a1, c1, rfl, hrd⟩ := hown.rd
    obtain ⟨b, rfl⟩ := hown.blk (by omega)
    have hcl : wr.cell? ⟨b, i, none⟩ = some (.int .i64 (l.getD i 0)) := by
      obtain ⟨b', o', he, hc⟩ := X.num hrd (show i < l.length by omega)
      simp only [Option.some.injEq, Addr.mk.injEq, and_true] at he
      obtain ⟨rfl, rfl⟩ := he
      rwa [Nat.zero_add] at hc
    have hlast := HMD.out.le i (by omega)
    have hm6 : most * i ≤ 9 * 5 := Nat.mul_le_mul hm.2 (by omega)
    have hbase : w.heap.size ≤ wr.heap.size := HBW.out.size
    by_cases hx1 : i < xs.length ∧ i < 5
    · clear hmd hb hown hrd
      have hx1' := hx1.1
      have hd1 : ((i : Int) < (xs.length : Int)) := by omega
      have hd2 : ((i : Int) < 5) := by omega
      have hd1' := decide_eq_true hd1
      have hd2' := decide_eq_true hd2
      obtain ⟨b2, o2, hae, hce⟩ := HR.out i (by omega)
      subst hae
      have hce0 := hce
      have hce := cell_stays HBW.out (Nat.le_refl _) hce
      have hx256 := HX.out _ (List.getElem_mem (show i < xs.length by omega))
      have HSN := hid (fun (x : Int) h1 h2 => HMD.out.snoc (by omega) (x := x) h1 h2)
      rw [hli, Nat.add_sub_cancel] at HSN
      have hlx : (l.map (Value.int .i64))[i]? = some (.int .i64 (l.getD i 0)) := by simp [List.getD, show i < l.length by omega]
      generalize xs[i] = e at *
      generalize l.getD i 0 = x at *
      have hix : (0 : Int) ≤ (i : Int) ∧ (i : Int) < (l.length : Int) := by omega
      have hix2 : (0 : Int) ≤ (i : Int) ∧ (i : Int) < (xs.length : Int) := by omega
      have hwe : IntKind.i64.wrap ((e : Nat) : Int) = (e : Int) := IntWalk.i64_in _ (by omega)
      have htm : ((e : Nat) : Int).tmod (most : Int) = ((e % most : Nat) : Int) := by rw [Int.tmod_eq_emod_of_nonneg (by omega)]; push_cast; rfl
      have hmo := Nat.mod_lt e (show 0 < most by omega)
      have hne : ¬ (most : Int) = 0 := by omega
      have hm0 : ¬ most = 0 := by omega
      have hne2 : ((most : Int) == 0) = false := by simp; omega
      have HN := hid (HSN.out (x + 1 + ((e % most : Nat) : Int)) (by omega) (by omega))
      have hw1 : IntKind.i64.wrap (x + 1) = x + 1 := IntWalk.i64_in _ (by omega)
      have hw2 : IntKind.i64.wrap (x + 1 + ((e % most : Nat) : Int)) = x + 1 + ((e % most : Nat) : Int) := IntWalk.i64_in _ (by omega)
      have hw3 : IntKind.i64.wrap ((e % most : Nat) : Int) = ((e % most : Nat) : Int) := IntWalk.i64_in _ (by omega)
      have hw4 : IntKind.i64.wrap ((e : Int) % (most : Int)) = ((e % most : Nat) : Int) := by rw [show ((e : Int) % (most : Int)) = ((e % most : Nat) : Int) by push_cast; rfl]; exact hw3
      generalize e % most = r at *
      have HM1' : Hid (l.length + 1 ≤ maxLen) := hid (by unfold maxLen; omega)
      have HM2' : Hid ((l.length + 1) * 8 ≤ 140737488355328) := hid (by omega)
      have HLI := hid hli
      clear HSN HR HX hli
      go_wp2_with fail
      have HKQ : Hid (X.C2 ⟨b, i, none⟩ ⟨b2, o2 + i, none⟩ (.int .i64 x) (.int .u8 (e : Nat)) wr) := hid ⟨hcl, hce⟩
      have hb2 : b2 < w.heap.size := World.block_lt_of_cell? _ _ hce0
      have HXI : Hid ((l.map (Value.int .i64))[i]? = some (.int .i64 x)) := hid hlx
      have HKA : Hid (X.C2 ⟨b, i, none⟩ ⟨b2, o2 + i, none⟩ (.int .i64 x) (.int .u8 (e : Nat)) (wr.alloc (.cells #[.int .i64 (x + 1 + (r : Int))] 3)).drew) := hid (HKQ.out.alloc _).drew
      have HOA : Hid ((wr.alloc (.cells #[.int .i64 (x + 1 + (r : Int))] 3)).drew.ownsRow w.heap.size 3 1 (.slice (some ⟨b, 0, none⟩) l.length c1) l.length (l.map (Value.int .i64))) := hid (World.ownsRow.alloc HOW.out _)
      have HBA : Hid (Below w.heap.size w (wr.alloc (.cells #[.int .i64 (x + 1 + (r : Int))] 3)).drew) := hid (HBW.out.alloc hbase _).drew
      clear hce hcl hlx
      go_region_held3 (fun W => X.C2 ⟨b, i, none⟩ ⟨b2, o2 + i, none⟩ (.int .i64 x) (.int .u8 (e : Nat)) W) (first | with_reducible exact HKQ.out.drew | with_reducible exact HKQ.out | with_reducible exact HKA.out | with_reducible exact HKQ.out.alloc _ | with_reducible exact (HKQ.out.alloc _).drew | with_reducible exact hcz.out) (first | (refine X.step_append_old rfl _ _ 22 rfl w.heap.size 3 i0 (.int .i64 0) 1 8 Try.underlying22 hi hz0 hz1 hz2 rfl (by decide) b l.length c1 _ rfl HOA.out wr.heap.size 1 1 [.int .i64 (x + 1 + (r : Int))] rfl rfl (X.Lit.one' wr (.int .i64 (x + 1 + (r : Int))) 3 wr.heap.size rfl).drew (X.one1 _) HM1'.out HM2'.out (by simp; omega) ?_; intro v' w9 hown' hgrow hold; have hcz : Hid (X.C2 ⟨b, i, none⟩ ⟨b2, o2 + i, none⟩ (.int .i64 x) (.int .u8 (e : Nat)) w9) := hid ⟨hold i _ HXI.out, hgrow.cell HKA.out.2 (fun e => by have := (World.ownsRow.lt HOW.out b rfl).1; simp at e; omega)⟩))
      all_goals (
        have HB9 := hid (Below.grown HBA.out hgrow (by simp; omega) (fun q hq => (World.ownsRow.lt HOW.out q hq).1))
        have HO9 := hid (RowI.push hown')
        clear hown' hgrow hold hcz
        go_wp2
        go_roundw
        case rel => exact ⟨l ++ [x + 1 + (r : Int)], i + 1, by have := HLI.out; simp; omega, by omega, by go_num, HN.out, HO9.out, HB9.out⟩
        case measure => simp [intOf]; omega)
    · clear hown
      have hd : decide ((i : Int) < (xs.length : Int)) = false ∨ (decide ((i : Int) < (xs.length : Int)) = true ∧ decide ((i : Int) < 5) = false) := by
        by_cases h : i < xs.length
        · exact .inr ⟨decide_eq_true (by omega), decide_eq_false (by omega)⟩
        · exact .inl (decide_eq_false (by omega))
      have HOK := hid (fun h2 => HMD.out.ok hm.2 (by omega) (l := l))
      have HM2' : Hid ((l.length + 1) * 8 ≤ 140737488355328) := hid (by omega)
      by_cases h2 : i = 0
      · subst h2
        have h00 : l.getD 0 0 = 0 := HMD.out.zero
        have HM3 : Hid (X.Md most (l ++ [3])) := hid (HMD.out.snoc (by omega) (by rw [hli, Nat.add_sub_cancel, h00]; omega) (by rw [hli, Nat.add_sub_cancel, h00]; omega))
        have HM4 := hid (HM3.out.ok hm.2 (by simp; omega))
        have hl2 : ((l.length : Int) < 2) := by omega
        have hl2' := decide_eq_true hl2
        clear hli
        rcases hd with hd | ⟨hd, hd5⟩
        · have hdn : ¬ ((0 : Nat) : Int) < (xs.length : Int) := by simpa using hd
          clear hmd
          go_wp2_with (at_builtin; refine wpList_append_own _ rfl _ _ 22 rfl w.heap.size 3 i0 (.int .i64 0) 1 8 Try.underlying22 hi hz0 hz1 hz2 rfl (by decide) _ _ _ rfl (World.ownsRow.alloc HOW.out _) ⟨wr.heap.size, 0, none⟩ 1 1 [.int .i64 3] rfl rfl (X.Lit.one' _ _ _ _ rfl) (X.one1 _) (by unfold maxLen; omega) HM2'.out (by simp; omega) ?_; intro v' w9 hown' hgrow _)
          have HB9 := hid (Below.grown (HBW.out.alloc hbase (.cells #[.int .i64 3] 3)) hgrow (by simp; omega) (fun q hq => (World.ownsRow.lt HOW.out q hq).1))
          have HO9 := hid (RowI.push hown')
          obtain ⟨a2, c2, rfl, hrd2⟩ := HO9.out.rd
          clear hown' hgrow
          have HRD2 := hid hrd2
          clear hrd2
          go_wp2
          go_ret
          exact ⟨a2, l ++ [3], c2, rfl, HRD2.out, HM4.out.1, HM4.out.2.1, HM4.out.2.2, HM3.out.six, HB9.out⟩
        · simp at hd5
      · have hl2 : ¬ ((l.length : Int) < 2) := by omega
        have hl2' := decide_eq_false hl2
        have HM4 := hid (HMD.out.ok hm.2 (by omega))
        have HRD2 := hid hrd
        clear hrd hmd hli
        rcases hd with hd | ⟨hd, hd5⟩
        · have hdn : ¬ (i : Int) < (xs.length : Int) := by simpa using hd
          go_wp2
          go_ret
          exact ⟨_, l, c1, rfl, HRD2.out, HM4.out.1, HM4.out.2.1, HM4.out.2.2, h6, HBW.out⟩
        · have hdn : (i : Int) < (xs.length : Int) := by simpa using hd
          have hdn5 : ¬ (i : Int) < 5 := by simpa using hd5
          go_wp2
          go_ret
          exact ⟨_, l, c1, rfl, HRD2.out, HM4.out.1, HM4.out.2.1, HM4.out.2.2, h6, HBW.out⟩
end Go.Proofs.Ythaoacnaeafbeaa
