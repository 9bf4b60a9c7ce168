/- Package rack: the walk of the closure that searches in depth. -/
import Derived.Test.YtmbfpekcfeeifaaKArrows
import Derived.Test.YtmbfpekcfeeifaaKReach
namespace Go.Proofs.Ytmbfpekcfeeifaa
open Go.RowKit

/-- The searching closure, as a value. -/
def K.walkF (b5 gp b3 b8 : Nat) : Value := .func (.func 90) #[] #[.pointer (some ⟨b5, 0, none⟩), .pointer (some ⟨gp, 0, none⟩), .pointer (some ⟨b3, 0, none⟩), .pointer (some ⟨b8, 0, none⟩)]
/-- Which places are passed, in memory. -/
def PassAt (w : World) (gp : Nat) (P : Nat → Bool) : Prop := w.rowIs gp 115 12 (fun j => .bool (P j))
theorem PassAt.at {w : World} {gp : Nat} {P : Nat → Bool} (h : PassAt w gp P) {j : Nat} (hj : j < 12) : w.cell? ⟨gp, j, none⟩ = some (.bool (P j)) := h.cell hj
theorem PassAt.set {w : World} {gp : Nat} {P : Nat → Bool} (h : PassAt w gp P) (i : Nat) : PassAt (w.setCell ⟨gp, i, none⟩ (.bool true)) gp (K.pass1 P i) := by
  unfold PassAt at h ⊢
  refine (h.set i (.bool true)).congr fun j _ => ?_
  unfold K.pass1
  split <;> rfl
/-- What the search has around it. -/
structure K.Env (w : World) (b5 gp b3 b8 g m n : Nat) (sl : Value) (M : Nat → Nat → Bool) (goal : Int) : Prop where
  to : w.cell? ⟨b5, 0, none⟩ = some (.int .i64 goal)
  arr : w.cell? ⟨b3, 0, none⟩ = some (.pointer (some ⟨g, 0, none⟩))
  fn : w.cell? ⟨b8, 0, none⟩ = some (K.walkF b5 gp b3 b8)
  at' : ArrAt w g m n sl M
  n5 : b5 ≠ gp
  n3 : b3 ≠ gp
  n8 : b8 ≠ gp
  ng : g ≠ gp
theorem K.Env.but {w w' : World} {b5 gp b3 b8 g m n : Nat} {sl : Value} {M : Nat → Nat → Bool} {goal : Int} (h : K.Env w b5 gp b3 b8 g m n sl M goal) (hb : But gp w w') : K.Env w' b5 gp b3 b8 g m n sl M goal :=
  ⟨hb.cell h.to h.n5, hb.cell h.arr h.n3, hb.cell h.fn h.n8, hb.row h.at' h.ng, h.n5, h.n3, h.n8, h.ng⟩
/-- The row of a place. -/
def K.rowV (M : Nat → Nat → Bool) (i : Nat) : List Value := (List.range 12).map fun j => .bool (M i j)
theorem K.rowV_at {M : Nat → Nat → Bool} {i j : Nat} (hj : j < 12) : (K.rowV M i)[j]? = some (.bool (M i j)) := by
  unfold K.rowV; simp [hj]
theorem K.rowV_len {M : Nat → Nat → Bool} {i : Nat} : (K.rowV M i).length = 12 := by unfold K.rowV; simp
theorem ArrAt.range {w : World} {g m n : Nat} {sl : Value} {M : Nat → Nat → Bool} (h : ArrAt w g m n sl M) {i : Nat} (hi : i < 12) : w.rangeAt g (3 + i * 12) (K.rowV M i) := by
  intro j v hv
  have hj : j < 12 := by
    have := (List.getElem?_eq_some_iff.1 hv).1
    rwa [K.rowV_len] at this
  rw [K.rowV_at hj] at hv
  cases hv
  exact h.at hi hj
set_option maxRecDepth 100000 in
theorem index12 (w : World) (X : Array Value) (k : Nat) (b : Bool) (hk : k < 12) (h : X[k]? = some (.bool b)) : (Instr.index 115 (.agg X) (.int .i64 k)).run Try.prog w = .ok (.bool b) w := by
  obtain ⟨i0, hi, hz0, hz1, hz2⟩ := info_parts (show (Try.prog.info? 4).map (fun i => (i.zero, i.size, i.bytes)) = some (some (.bool false), 1, 1) by kernel_rfl)
  simp [Instr.index, asIntOf, underlying, Try.underlying115, Try.underlying4, sizeOf, typeInfo, hi, hz1, part, isAgg, h]
  intro h'
  omega
/-- What the search does to the world. -/
def K.Walked (M : Nat → Nat → Bool) (goal : Int) (P : Nat → Bool) (place gp : Nat) (w : World) (e : Ending) (w' : World) : Prop :=
  ∃ r P', e = .returned (.bool r) ∧ K.Searched M goal P place r P' ∧ PassAt w' gp P' ∧ But gp w w'

set_option maxHeartbeats 4000000 in
set_option maxRecDepth 100000 in
theorem walk_any (b5 gp b3 b8 g m n : Nat) (sl : Value) (M : Nat → Nat → Bool) (goal : Int) : ∀ (N : Nat) (P : Nat → Bool) (place : Nat) (w : World), K.cnt P < N → place < 12 → P place = false → PassAt w gp P → K.Env w b5 gp b3 b8 g m n sl M goal →
    Calls Try.prog 90 #[.int .i64 place, .pointer (some ⟨b5, 0, none⟩), .pointer (some ⟨gp, 0, none⟩), .pointer (some ⟨b3, 0, none⟩), .pointer (some ⟨b8, 0, none⟩)] w (K.Walked M goal P place gp w) := by
  intro N
  induction N with
  | zero => intro P place w h; exact absurd h (Nat.not_lt_zero _)
  | succ N ih =>
    intro P place w hN hp hpf hP hE
    have HIH := hid ih
    have HP := hid hP
    have HE := hid hE
    have HPF := hid hpf
    have HN := hid hN
    have c5 := hE.to
    have l5 : b5 < w.heap.size := World.block_lt_of_cell? _ _ c5
    have n5 := hE.n5
    clear ih hP hE hpf hN
    by_cases hgo : goal = place
    · subst hgo
      go_enter Try.func90, Try.ntmps90
      go_wp2
      go_ret
      exact ⟨true, P, rfl, K.Searched.hit, HP.out, But.refl _ _⟩
    · have hd1 : ((place : Int) == goal) = false := by rw [beq_eq_false_iff_ne]; omega
      have c3 := HE.out.arr
      have f1 : ∀ k, w.frozen? ⟨gp, k, none⟩ = false := fun k => HP.out.frozen k
      have y1 := HP.out.at hp
      have i1 : (0 : Int) ≤ (place : Int) ∧ (place : Int) < 12 := by omega
      have HU := hid (K.Under.start (M := M) (P := P) hgo)
      have HP1 := hid (HP.out.set place)
      have HB1 := hid ((But.refl gp w).set place (.bool true))
      have HC : Hid (K.cnt (K.pass1 P place) < N) := hid (by
        have := K.cnt_less (P := P) (Q := K.pass1 P place) (fun x hx => by unfold K.pass1; split <;> first | rfl | exact hx) hp HPF.out (by simp [K.pass1])
        have := HN.out
        omega)
      have n3 := HE.out.n3
      have n3' : gp ≠ b3 := fun e => n3 e.symm
      have HE1 := hid (HE.out.but HB1.out)
      have HRG := hid (HE1.out.at'.range hp)
      have HRW : Hid (∀ j, j < 12 → (K.rowV M place)[j]? = some (.bool (M place j))) := hid (fun j hj => K.rowV_at hj)
      have HRL : Hid ((K.rowV M place).length = 12) := hid K.rowV_len
      clear hgo
      go_enter Try.func90, Try.ntmps90
      go_wp2_with (refine wpList_load_mid rfl 115 _ rfl g (3 + place * 12) rfl (K.rowV M place) _ HRG.out Try.underlying115 rfl (by rw [HRL.out]; kernel_rfl) ?_)
      generalize w.setCell ⟨gp, place, none⟩ (.bool true) = w1 at *
      generalize K.rowV M place = row at *
      clear f1 y1 c3 c5 l5
      go_loopw [20] (fun i wr => ∃ k : Nat, k ≤ 12 ∧ i = .int .i64 k ∧ ∃ P', K.Under M goal P place k P' ∧ PassAt wr gp P' ∧ But gp w wr) (fun i _ => 12 - (intOf i).toNat)
      case atStart => exact ⟨0, by omega, rfl, _, HU.out, HP1.out, HB1.out⟩
      case round =>
        obtain ⟨k, hk, rfl, P', hu, hp', hb⟩ := hrel
        have HU' := hid hu
        have HP' := hid hp'
        have HB := hid hb
        clear hu hp' hb
        by_cases hlt : k < 12
        · have ek := HRW.out k hlt
          have ea : row.toArray[k]? = some (.bool (M place k)) := by simpa using ek
          have hix : (0 : Int) ≤ (k : Int) ∧ (k : Int) < 12 := by omega
          have ei := index12 wr row.toArray k (M place k) hlt ea
          clear ea ek
          have c2 := HP'.out.at hlt
          have HEr := hid (HE.out.but HB.out)
          have c8 := HEr.out.fn
          have l8 : b8 < wr.heap.size := World.block_lt_of_cell? _ _ c8
          unfold K.walkF at c8
          cases hmk : M place k with
          | false =>
            have HNX := hid (HU'.out.skip (by rw [hmk]; intro h; cases h))
            rw [hmk] at ei
            clear hmk
            go_wp2_with fail
            go_roundw
            case rel => exact ⟨k + 1, by omega, by go_num, P', HNX.out, HP'.out, HB.out⟩
            case measure => simp [intOf]; omega
          | true =>
            rw [hmk] at ei
            cases hpk : P' k with
            | true =>
              have HNX := hid (HU'.out.skip (fun _ => hpk))
              rw [hpk] at c2
              clear hmk hpk
              go_wp2_with fail
              go_roundw
              case rel => exact ⟨k + 1, by omega, by go_num, P', HNX.out, HP'.out, HB.out⟩
              case measure => simp [intOf]; omega
            | false =>
              rw [hpk] at c2
              have HCL := hid (HIH.out P' k wr (Nat.lt_of_le_of_lt (K.cnt_le fun x hx => by
                unfold K.pass1 at hx
                split at hx
                · rename_i e; rw [e]; exact HU'.out.self
                · exact HU'.out.more x hx) HC.out) hlt hpk HP'.out HEr.out)
              have HMK := hid hmk
              clear hmk hpk
              go_wp2_with fail
              refine HCL.out.mono ?_
              rintro e w' ⟨r, P2, rfl, hs, hp2, hb2⟩
              have HB2 := hid (HB.out.trans hb2)
              have HP2 := hid hp2
              cases r with
              | true =>
                have HF := hid (K.Searched.up (P := P) (P2 := P2) hs HMK.out)
                clear hs hp2 hb2
                go_wp2
                go_ret
                exact ⟨true, P2, rfl, HF.out, HP2.out, HB2.out⟩
              | false =>
                have HNX := hid (HU'.out.next hs)
                clear hs hp2 hb2
                go_wp2
                go_roundw
                case rel => exact ⟨k + 1, by omega, by go_num, P2, HNX.out, HP2.out, HB2.out⟩
                case measure => simp [intOf]; omega
        · have hke : k = 12 := by omega
          subst hke
          have HF := hid HU'.out.end
          go_wp2
          go_ret
          exact ⟨false, P', rfl, HF.out, HP'.out, HB.out⟩
end Go.Proofs.Ytmbfpekcfeeifaa
