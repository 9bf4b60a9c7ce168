/- Package transfer by the evaluator: the table in the search's place. -/
import Derived.Test.YtffcnjcglfkbnaaTTT0
import Derived.Test.YtffcnjcglfkbnaaTTT1
import Derived.Test.YtffcnjcglfkbnaaTTT2
import Derived.Test.YtffcnjcglfkbnaaTTT3
import Derived.ProofKit
import Derived.OpenShut
import Derived.Deep.Matrix
namespace Go.Proofs.Ytffcnjcglfkbnaa
open Go.ChangeShapes Go.WideShapes Go.RowKit Go.Deep Ev

theorem laidOut : laidOutB Try.prog = true := by kernel_rfl
theorem own : ownKnob Try.prog.godebug = none := by kernel_rfl

theorem tabA_all : ∀ n, 1 ≤ n → n ≤ 46 → shB n anyF (chainOf n) = true
  | 0, h, _ => absurd h (by decide)
  | 1, _, _ => tabA1
  | 2, _, _ => tabA2
  | 3, _, _ => tabA3
  | 4, _, _ => tabA4
  | 5, _, _ => tabA5
  | 6, _, _ => tabA6
  | 7, _, _ => tabA7
  | 8, _, _ => tabA8
  | 9, _, _ => tabA9
  | 10, _, _ => tabA10
  | 11, _, _ => tabA11
  | 12, _, _ => tabA12
  | 13, _, _ => tabA13
  | 14, _, _ => tabA14
  | 15, _, _ => tabA15
  | 16, _, _ => tabA16
  | 17, _, _ => tabA17
  | 18, _, _ => tabA18
  | 19, _, _ => tabA19
  | 20, _, _ => tabA20
  | 21, _, _ => tabA21
  | 22, _, _ => tabA22
  | 23, _, _ => tabA23
  | 24, _, _ => tabA24
  | 25, _, _ => tabA25
  | 26, _, _ => tabA26
  | 27, _, _ => tabA27
  | 28, _, _ => tabA28
  | 29, _, _ => tabA29
  | 30, _, _ => tabA30
  | 31, _, _ => tabA31
  | 32, _, _ => tabA32
  | 33, _, _ => tabA33
  | 34, _, _ => tabA34
  | 35, _, _ => tabA35
  | 36, _, _ => tabA36
  | 37, _, _ => tabA37
  | 38, _, _ => tabA38
  | 39, _, _ => tabA39
  | 40, _, _ => tabA40
  | 41, _, _ => tabA41
  | 42, _, _ => tabA42
  | 43, _, _ => tabA43
  | 44, _, _ => tabA44
  | 45, _, _ => tabA45
  | 46, _, _ => tabA46
  | n + 47, _, h => absurd h (by omega)
theorem tabR_all : ∀ n, 1 ≤ n → n ≤ 46 → shB n rowF (chainOf n) = true
  | 0, h, _ => absurd h (by decide)
  | 1, _, _ => tabR1
  | 2, _, _ => tabR2
  | 3, _, _ => tabR3
  | 4, _, _ => tabR4
  | 5, _, _ => tabR5
  | 6, _, _ => tabR6
  | 7, _, _ => tabR7
  | 8, _, _ => tabR8
  | 9, _, _ => tabR9
  | 10, _, _ => tabR10
  | 11, _, _ => tabR11
  | 12, _, _ => tabR12
  | 13, _, _ => tabR13
  | 14, _, _ => tabR14
  | 15, _, _ => tabR15
  | 16, _, _ => tabR16
  | 17, _, _ => tabR17
  | 18, _, _ => tabR18
  | 19, _, _ => tabR19
  | 20, _, _ => tabR20
  | 21, _, _ => tabR21
  | 22, _, _ => tabR22
  | 23, _, _ => tabR23
  | 24, _, _ => tabR24
  | 25, _, _ => tabR25
  | 26, _, _ => tabR26
  | 27, _, _ => tabR27
  | 28, _, _ => tabR28
  | 29, _, _ => tabR29
  | 30, _, _ => tabR30
  | 31, _, _ => tabR31
  | 32, _, _ => tabR32
  | 33, _, _ => tabR33
  | 34, _, _ => tabR34
  | 35, _, _ => tabR35
  | 36, _, _ => tabR36
  | 37, _, _ => tabR37
  | 38, _, _ => tabR38
  | 39, _, _ => tabR39
  | 40, _, _ => tabR40
  | 41, _, _ => tabR41
  | 42, _, _ => tabR42
  | 43, _, _ => tabR43
  | 44, _, _ => tabR44
  | 45, _, _ => tabR45
  | 46, _, _ => tabR46
  | n + 47, _, h => absurd h (by omega)

def tabF (args : List AV) : Option (List Int × Option Nat) :=
  match args with
  | [.sc (.int .i64 (.ofNat n)), .sc (.func (.func g) a b)] => match a.toList, b.toList with
    | [], [] => bif Nat.ble 1 n && (Nat.ble n 46 && (Nat.beq g 56 || Nat.beq g 49)) then some (chainOf n, none) else none
    | _, _ => none
  | _ => none
theorem tabF_ok (args : List AV) (xs : List Int) (c : Option Nat) (h : tabF args = some (xs, c)) : ∃ vs, toVs args = some vs ∧ GivesL Try.prog 55 vs xs c := by
  unfold tabF at h
  split at h
  case h_2 => cases h
  rename_i n g a b
  split at h
  case h_2 => cases h
  rename_i ha hb
  have ha' : a = #[] := by apply Array.toList_inj.1; rw [ha]
  have hb' : b = #[] := by apply Array.toList_inj.1; rw [hb]
  subst ha'; subst hb'
  cases hc : (Nat.ble 1 n && (Nat.ble n 46 && (Nat.beq g 56 || Nat.beq g 49))) with
  | false => rw [hc] at h; cases h
  | true =>
    rw [hc] at h
    simp only [cond_true, Option.some.injEq, Prod.mk.injEq] at h
    obtain ⟨rfl, rfl⟩ := h
    simp only [Bool.and_eq_true, Bool.or_eq_true] at hc
    have h1 : 1 ≤ n := Nat.le_of_ble_eq_true hc.1
    have h2 : n ≤ 46 := Nat.le_of_ble_eq_true hc.2.1
    refine ⟨_, rfl, ?_⟩
    rcases hc.2.2 with hg | hg
    · have := Nat.eq_of_beq_eq_true hg
      subst this
      exact shB_gives (tabA_all n h1 h2)
    · have := Nat.eq_of_beq_eq_true hg
      subst this
      exact shB_gives (tabR_all n h1 h2)

noncomputable def hkB : Hks := hksOf [⟨55, fun args => (tabF args).isSome, hookList tabF⟩, ⟨73, always, hookDef Try.prog 100000 73⟩, ⟨71, always, hookBS⟩]
theorem hkB_ok : HksOk Try.prog hkB := by
  refine hksOf_ok ?_
  intro en hm
  simp only [List.mem_cons, List.not_mem_nil, or_false] at hm
  rcases hm with rfl | rfl | rfl
  · exact hookList_ok (g := 55) tabF_ok
  · exact hookDef_ok (F := 100000) (g := 73) t_mixed
  · exact hookBS_ok
noncomputable def runB (g : FuncId) (args : List AV) : Bool := isTrue (chkP Try.prog hkB 100000 100000 g args)
theorem runB_gives {g : FuncId} {args : List AV} {vs : List Value} (hr : RelL (fun _ => none) args vs) (h : runB g args = true) : GivesV Try.prog g vs (.bool true) :=
  chkP_sound hkB_ok t_mixed hr (isTrue_eq h)
theorem u8_nat {a : Int} (h : (Lit.int .u8 a).wf = true) : ∃ x : Nat, a = (x : Int) ∧ x < 256 := by
  have hmin : IntKind.u8.min = 0 := rfl
  have hmax : IntKind.u8.max = 255 := rfl
  simp only [Lit.wf, hmin, hmax, Bool.and_eq_true, decide_eq_true_eq] at h
  exact ⟨a.toNat, by omega, by omega⟩
end Go.Proofs.Ytffcnjcglfkbnaa
