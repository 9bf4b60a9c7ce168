/- Package hours: the walks of kinds and its closures, and of boundOf. -/
import Derived.Test.YthlcnklbeolhpaaHRow
import Derived.Deep.RegionHeld3
import Derived.Laws.ResultCell
import Derived.Laws.EntriesVeiled
namespace Go.Proofs.Ythlcnklbeolhpaa
open Go.RowKit

theorem kinds1_any (a : Option Addr) (n c : Nat) (w : World) : Calls Try.prog 89 #[.slice a n c] w fun e w' => e = .returned (.int .i64 n) ∧ w = w' := by
  go_enter Try.func89, Try.ntmps89
  go_wp2
  go_ret
  exact ⟨rfl, rfl⟩
theorem kinds2_any (a : Option Addr) (c i : Nat) (s : Int) (T : List (List Int)) (w : World) (hok : H.Ok T) (hi : i < T.length) (hx : RdM w a T) :
    Calls Try.prog 90 #[.slice a T.length c, .int .i64 s, .int .i64 i] w fun e w' => e = .returned (.int .i64 (H.sum T[i])) ∧ w = w' := by
  obtain ⟨b, off, r, cr, rfl, hc, hr⟩ := hx i hi
  have HR := hid (rowSum_any r cr T[i] w (by rw [hok.row _ (List.getElem_mem hi)]; have := hok.n6; omega) (hok.hrs _ (List.getElem_mem hi)) hr)
  have h6 := hok.m6
  clear hr hok hx
  generalize T[i].length = nr at *
  generalize H.sum T[i] = v at *
  have hix : (0 : Int) ≤ (i : Int) ∧ (i : Int) < (T.length : Int) := by omega
  go_enter Try.func90, Try.ntmps90
  go_wp2_with fail
  refine HR.out.mono ?_
  rintro e w' ⟨rfl, rfl⟩
  go_wp2
  go_ret
  exact ⟨rfl, rfl⟩
theorem kinds3_any (a : Option Addr) (c : Nat) (T : List (List Int)) (w : World) (h1 : 0 < T.length) (hx : RdM w a T) : Calls Try.prog 91 #[.slice a T.length c] w fun e w' => e = .returned (.int .i64 (H.wid T)) ∧ w = w' := by
  obtain ⟨b, off, r, cr, rfl, hc, _⟩ := hx 0 h1
  rw [← H.wid_eq h1] at hc
  simp only [Nat.add_zero] at hc
  clear hx
  go_enter Try.func91, Try.ntmps91
  go_wp2
  go_ret
  exact ⟨rfl, rfl⟩
theorem kinds4_any (a : Option Addr) (c j : Nat) (s : Int) (T : List (List Int)) (w : World) (hok : H.Ok T) (hj : j < H.wid T) (hx : RdM w a T) :
    Calls Try.prog 92 #[.slice a T.length c, .int .i64 s, .int .i64 j] w fun e w' => e = .returned (.int .i64 (H.col T j)) ∧ Below w.heap.size w w' := by
  have HR := hid (columnSum_any a c j T w hok hj hx)
  clear hok hx
  go_enter Try.func92, Try.ntmps92
  go_wp2_with fail
  refine HR.out.mono ?_
  rintro e w' ⟨rfl, hb⟩
  have HB := hid hb
  clear hb
  go_wp2
  go_ret
  exact ⟨rfl, HB.out⟩
theorem kinds5_any (a : Option Addr) (n c : Nat) (w : World) : Calls Try.prog 93 #[.slice a n c] w fun e w' => e = .returned (.int .i64 1) ∧ w = w' := by
  go_enter Try.func93, Try.ntmps93
  go_wp2
  go_ret
  exact ⟨rfl, rfl⟩
theorem kinds6_any (a : Option Addr) (c : Nat) (s j : Int) (T : List (List Int)) (w : World) (hok : H.Ok T) (hs : 1 ≤ s) (hx : RdM w a T) :
    Calls Try.prog 94 #[.slice a T.length c, .int .i64 s, .int .i64 j] w fun e w' => e = .returned (.int .i64 (H.ceil (H.tot T) s)) ∧ w = w' := by
  have HT := hid (total_any a c T w hok hx)
  have hb := hok.tot_bd
  have HS := hid (shared_any (H.tot T) s w hb.1 (by omega) hs)
  clear hok hx
  generalize H.ceil (H.tot T) s = q at *
  generalize H.tot T = t at *
  go_enter Try.func94, Try.ntmps94
  go_wp2_with fail
  refine HT.out.mono ?_
  rintro e w' ⟨rfl, rfl⟩
  go_wp2_with fail
  refine HS.out.mono ?_
  rintro e w' ⟨rfl, rfl⟩
  go_wp2
  go_ret
  exact ⟨rfl, rfl⟩
/-- The kinds, as a value. -/
def H.kv : Value := .agg #[.func (.func 89) #[] #[], .func (.func 90) #[] #[], .func (.func 91) #[] #[], .func (.func 92) #[] #[], .func (.func 93) #[] #[], .func (.func 94) #[] #[]]
set_option maxHeartbeats 1000000 in
theorem kinds_any (w : World) : Calls Try.prog 63 #[] w fun e w' => e = .returned H.kv ∧ Below w.heap.size w w' := by
  go_enter Try.func63, Try.ntmps63
  go_wp2
  exact bodyPost_ret (results_cell_row rfl _ _ w.heap.size 97 _ (0, 0) _ rfl (Go.Deep.blk_alloc_new w _) Try.underlying97 rfl (by kernel_rfl)) rfl ⟨rfl, (Below.refl _ _).alloc (Nat.le_refl _) _⟩
theorem indexK0 (w : World) : (Instr.index 97 H.kv (.int .i64 0)).run Try.prog w = .ok (.agg #[.func (.func 89) #[] #[], .func (.func 90) #[] #[]]) w := by kernel_rfl
theorem indexK1 (w : World) : (Instr.index 97 H.kv (.int .i64 1)).run Try.prog w = .ok (.agg #[.func (.func 91) #[] #[], .func (.func 92) #[] #[]]) w := by kernel_rfl
theorem indexK2 (w : World) : (Instr.index 97 H.kv (.int .i64 2)).run Try.prog w = .ok (.agg #[.func (.func 93) #[] #[], .func (.func 94) #[] #[]]) w := by kernel_rfl
theorem fieldK00 (w : World) : (Instr.field 96 (.agg #[.func (.func 89) #[] #[], .func (.func 90) #[] #[]]) 0).run Try.prog w = .ok (.func (.func 89) #[] #[]) w := by kernel_rfl
theorem fieldK01 (w : World) : (Instr.field 96 (.agg #[.func (.func 89) #[] #[], .func (.func 90) #[] #[]]) 1).run Try.prog w = .ok (.func (.func 90) #[] #[]) w := by kernel_rfl
theorem fieldK10 (w : World) : (Instr.field 96 (.agg #[.func (.func 91) #[] #[], .func (.func 92) #[] #[]]) 0).run Try.prog w = .ok (.func (.func 91) #[] #[]) w := by kernel_rfl
theorem fieldK11 (w : World) : (Instr.field 96 (.agg #[.func (.func 91) #[] #[], .func (.func 92) #[] #[]]) 1).run Try.prog w = .ok (.func (.func 92) #[] #[]) w := by kernel_rfl
theorem fieldK20 (w : World) : (Instr.field 96 (.agg #[.func (.func 93) #[] #[], .func (.func 94) #[] #[]]) 0).run Try.prog w = .ok (.func (.func 93) #[] #[]) w := by kernel_rfl
theorem fieldK21 (w : World) : (Instr.field 96 (.agg #[.func (.func 93) #[] #[], .func (.func 94) #[] #[]]) 1).run Try.prog w = .ok (.func (.func 94) #[] #[]) w := by kernel_rfl
end Go.Proofs.Ythlcnklbeolhpaa
