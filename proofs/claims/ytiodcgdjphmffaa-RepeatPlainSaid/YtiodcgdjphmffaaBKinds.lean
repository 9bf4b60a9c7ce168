/- Package tuschelaw08: RepeatAll's closure: how many kinds a border has. -/
import Derived.Test.YtiodcgdjphmffaaBGoes
import Derived.Maps.OwnSet
import Derived.Maps.Views
import Derived.WalkKit
namespace Go.Proofs.Ytiodcgdjphmffaa
open Go.RowKit Go.Maps Go.WideMaps

def B.keyAt (l : List UInt8) (k : Nat) : Lit := .int .u8 ((l.getD k 0).toNat : Int)
def B.keys (l : List UInt8) (k : Nat) : List Lit := (l.take k).map fun c => .int .u8 (c.toNat : Int)
def B.Sn {H : Type} (l : List UInt8) (k : Nat) : DataW H := setOf (.lit (.bool true)) (B.keys l k)
theorem B.keys_succ (l : List UInt8) (k : Nat) (hk : k < l.length) : B.keys l (k + 1) = B.keys l k ++ [B.keyAt l k] := by
  unfold B.keys B.keyAt
  rw [List.take_add_one, List.map_append]
  simp [List.getD, List.getElem?_eq_getElem hk]
theorem B.Sn_succ {H : Type} (l : List UInt8) (k : Nat) (hk : k < l.length) : B.Sn (H := H) l (k + 1) = (B.Sn l k).put (B.keyAt l k) (.lit (.bool true)) := by
  unfold B.Sn
  rw [B.keys_succ l k hk, setOf_snoc]
theorem B.Sn_zero {H : Type} (l : List UInt8) : B.Sn (H := H) l 0 = .map [] := by simp [B.Sn, B.keys, setOf]
theorem law5 : Keyed Try.prog 5 := int_keyed Try.underlying5
theorem B.keyOf_at (s : ByteArray) (k : Nat) (h : k < s.size) : keyOf Try.prog 5 (.int .u8 ((s[k]'h).toNat : Int)) = some (B.keyAt s.data.toList k) := by
  rw [keyOf_int_mk Try.underlying5]
  · unfold B.keyAt
    rw [List.getD, List.getElem?_eq_getElem (by rw [B.len]; exact h)]
    rfl
  · have := (s[k]'h).toNat_lt
    have h1 : IntKind.u8.min = 0 := rfl
    have h2 : IntKind.u8.max = 255 := rfl
    simp only [Lit.wf, Bool.and_eq_true, decide_eq_true_eq]
    omega

set_option maxHeartbeats 1000000 in
set_option maxRecDepth 100000 in
theorem kinds_any (s : ByteArray) (w : World) (hs : s.size ≤ 1000) (hasc : ∀ i (h : i < s.size), (s[i]'h).toNat < 128) :
    Calls Try.prog 40 #[.string s] w fun e w' => e = .returned (.int .i64 (Maps.size (B.Sn (H := Unit) s.data.toList s.size))) ∧ Below w.heap.size w w' := by
  have hmm := @run_makeMap Try.prog
  have HA := hid hasc; clear hasc
  go_enter Try.func40, Try.ntmps40
  go_wp2
  have HOW0 := hid (World.ownsMap_made w Try.prog 5 (plainElem (H := Unit) Try.prog 4))
  go_loopg [8] s.size (fun g _ wr => ∃ k : Nat, k ≤ s.size ∧ g = s.size - k ∧ wr.heap[w.heap.size + 1]? = some (.stringIter s k) ∧ wr.ownsMap Try.prog 5 (plainElem Try.prog 4) w.heap.size k (B.Sn (H := Unit) s.data.toList k) ∧ Below w.heap.size w wr)
  case atStart =>
    refine ⟨0, Nat.zero_le _, rfl, ?_, ?_, ?_⟩
    · have := World.iter_heap (w.alloc (.map #[] 0)) s 0
      simpa using this
    · rw [B.Sn_zero]; exact HOW0.out.alloc _
    · exact ((Below.refl _ _).alloc (Nat.le_refl _) _).alloc (by simp) _
  case round =>
    obtain ⟨k, hk, rfl, hit, hown, hbel⟩ := hrel
    have HB := hid hbel; clear hbel
    by_cases hlt : k < s.size
    · have h128 := HA.out k hlt
      have hnx : ∀ ty, (Instr.next (.pointer (some ⟨w.heap.size + 1, 0, none⟩)) true ty).run Try.prog wr = _ := fun ty => Lib.run_next_ascii_at wr (w.heap.size + 1) s k ty hit hlt h128
      have hit2 := Lib.iterAt_heap wr (w.heap.size + 1) s k (k + 1) hit
      have hb2 := Lib.below_iterAt HB.out (Nat.le_succ _) s (k + 1)
      have hown2 : (wr.iterAt (w.heap.size + 1) s (k + 1)).ownsMap Try.prog 5 (plainElem Try.prog 4) w.heap.size k (B.Sn (H := Unit) s.data.toList k) := by
        obtain ⟨es, clock, hb, F, h1, h2⟩ := hown
        exact ⟨es, clock, by rw [Lib.iterAt_other _ _ _ _ _ (by omega)]; exact hb, F, h1, h2⟩
      generalize wr.iterAt (w.heap.size + 1) s (k + 1) = wj at *
      have hkey := B.keyOf_at s k hlt
      have hix : (0 : Int) ≤ (k : Int) ∧ (k : Int) < (s.size : Int) := by omega
      have HIT := hid hit2
      have HBJ := hid hb2
      have HSN := hid (B.Sn_succ (H := Unit) s.data.toList k (by rw [B.len]; exact hlt))
      clear hit hown HB hit2 hb2
      go_wp2_with (first
        | (at_mapUpdate; refine wpList_mapUpdate_in _ rfl _ _ _ 51 rfl 5 4 law5 Try.underlying51 (plainElem (H := Unit) Try.prog 4) w.heap.size k _ rfl hown2 (by unfold maxLen; omega) _ _ _ rfl rfl hkey _ [] (plainElem_bool Try.underlying4 true) ?_; intro w1 hown1 hturn1)
        | go_in)
      go_roundg (s.size - (k + 1))
      case measure => omega
      case rel =>
        refine ⟨k + 1, by omega, rfl, ?_, HSN.out.symm ▸ hown1, ?_⟩
        · obtain ⟨es, clock, es', clock', hb, rfl⟩ := hturn1
          have := HIT.out
          simpa [ChangeMaps.setBlock, Array.getElem?_setIfInBounds] using this
        · exact HBJ.out.grown hturn1.grown HBJ.out.size (fun j hj => by cases hj; exact Nat.le_refl _)
    · have hk' : k = s.size := by omega
      subst hk'
      have hnx : ∀ ty, (Instr.next (.pointer (some ⟨w.heap.size + 1, 0, none⟩)) true ty).run Try.prog wr = _ := fun ty => Lib.run_next_end_at wr (w.heap.size + 1) s s.size ty hit (by omega)
      go_wp2_with (first
        | (at_len; refine wpList_len_own _ rfl _ 51 rfl 5 4 Try.underlying51 _ w.heap.size s.size _ rfl hown ?_)
        | go_in)
      go_ret
      exact ⟨rfl, HB.out⟩
end Go.Proofs.Ytiodcgdjphmffaa
