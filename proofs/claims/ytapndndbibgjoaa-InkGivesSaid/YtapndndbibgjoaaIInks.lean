/- Package ink: the walk of inksOf. -/
import Derived.Test.YtapndndbibgjoaaIInk
import Derived.Laws.AppendOwn
import Derived.BigRegion
namespace Go.Proofs.Ytapndndbibgjoaa
open Go.RowKit

/-- The slice with this address reads as these values. -/
def RdV (w : World) (a : Option Addr) (vs : List Value) : Prop :=
  ∀ k (h : k < vs.length), ∃ b off, a = some ⟨b, off, none⟩ ∧ w.cell? ⟨b, off + k, none⟩ = some vs[k]
theorem RdV.stays {w w' : World} {a : Option Addr} {xs : List Value} (h : RdV w a xs) (hb : Below w.heap.size w w') : RdV w' a xs := fun k hk => by
  obtain ⟨b, off, ha, hc⟩ := h k hk
  exact ⟨b, off, ha, cell_stays hb (Nat.le_refl _) hc⟩
theorem below_grown {w w' : World} (h : Below w.heap.size w w') : w.grownBy w' none := ⟨h.os, h.tape, h.output, h.size, fun k hk _ => h.block k hk⟩
theorem ownsRow_stays {w w' : World} {base : Nat} {e : TypeId} {size : Nat} {v : Value} {n : Nat} {xs : List Value} (h : w.ownsRow base e size v n xs) (hb : Below w.heap.size w w') : w'.ownsRow base e size v n xs :=
  h.kept (below_grown hb) (Classical.em _)
theorem RdV.of_row {w : World} {base : Nat} {t : TypeId} {v : Value} {n : Nat} {xs : List Value} (h : w.ownsRow base t 1 v n xs) : ∃ a cap, v = .slice a n cap ∧ n ≤ cap ∧ n = xs.length ∧ RdV w a xs := by
  have hl : xs.length = n := by have := h.1; simpa using this
  have hh := h
  rcases h.2 with ⟨rfl, h2⟩ | ⟨g, cap, cur, rfl, _, _, h2, _⟩
  · subst h2
    exact ⟨none, 0, rfl, Nat.le_refl _, hl.symm, fun k hk => by omega⟩
  · refine ⟨_, cap, rfl, h2, hl.symm, fun k hk => ⟨g, 0, rfl, ?_⟩⟩
    have := World.ownsRow.cellAt hh k (by omega)
    rw [Nat.zero_add, this]
    simp [hk]

set_option maxHeartbeats 2000000 in
set_option maxRecDepth 100000 in
theorem inksOf_any (n : Int) (a : Option Addr) (c : Nat) (T : List (List Int)) (w : World) (hg : K.Good n T) (hT : RdM w a T) :
    Calls Try.prog 67 #[K.pal n a T.length c] w fun e w' => ∃ r cr, e = .returned (.slice r T.length cr) ∧ T.length ≤ cr ∧ RdV w' r (T.map K.ink) ∧ Below w.heap.size w w' := by
  have hb0 : Below w.heap.size w (w.alloc (.cells #[.int .i64 n, .slice a T.length c] 24)) := (Below.refl _ _).alloc (Nat.le_refl _) _
  have k1 : (w.alloc (.cells #[.int .i64 n, .slice a T.length c] 24)).cell? ⟨w.heap.size, 1, none⟩ = some (.slice a T.length c) := by rw [World.cell?_alloc_at _ _ _ _ rfl]; rfl
  have HB0 := hid hb0
  have HT := hid (hT.stays hb0)
  have HG := hid hg
  have hf := hg.few
  clear hb0 hT hg
  obtain ⟨i0, hi, hz0, hz1, hz2⟩ := info_parts (show (Try.prog.info? 88).map (fun i => (i.zero, i.size, i.bytes)) = some (some .nilIface, 1, 16) by kernel_rfl)
  unfold K.pal
  go_enter Try.func67, Try.ntmps67
  go_wp2_with fail
  clear k1
  generalize w.alloc (.cells #[.int .i64 n, .slice a T.length c] 24) = w1 at *
  go_loopw [3, 9] (fun v i wr => ∃ k : Nat, k ≤ T.length ∧ i = .int .i64 k ∧ wr.ownsRow w1.heap.size 88 1 v k ((T.take k).map K.ink) ∧ Below w1.heap.size w1 wr) (fun _ i _ => T.length - (intOf i).toNat)
  case atStart => exact ⟨0, Nat.zero_le _, rfl, World.ownsRow_nil _ _ _ _, Below.refl _ _⟩
  case round =>
    obtain ⟨k, hk, rfl, hown, hb⟩ := hrel
    have HO := hid hown
    have HB2 := hid hb
    clear hown hb
    by_cases hlt : k < T.length
    · obtain ⟨b, off, ra, rc, rfl, hc, hr⟩ := (HT.out.stays HB2.out) k hlt
      have hrl : T[k].length ≤ 7 ∧ 1 ≤ T[k].length := by have := HG.out.len k hlt; have := HG.out.lo; have := HG.out.hi; omega
      have hsu : (T.take (k + 1)).map K.ink = (T.take k).map K.ink ++ [K.ink T[k]] := by rw [List.take_succ_eq_append_getElem hlt, List.map_append]; rfl
      obtain ⟨tt, vv, hq⟩ : ∃ tt vv, K.ink T[k] = .iface tt vv := by unfold K.ink; split <;> exact ⟨_, _, rfl⟩
      have HC := hid (inkOf_any ra rc T[k] wr hrl.2 hrl.1 hr)
      have hix : (0 : Int) ≤ (k : Int) ∧ (k : Int) < (T.length : Int) := by omega
      rw [hq] at HC hsu
      clear hq
      have HS := hid hsu
      generalize T[k] = row at *
      clear hsu hr hrl
      go_wp2_with fail
      refine HC.out.mono ?_
      rintro e w2 ⟨rfl, hb2⟩
      have HO2 := hid (ownsRow_stays HO.out hb2)
      have HB3 := hid (HB2.out.trans (hb2.mono HB2.out.size))
      have hc2 := cell_stays hb2 (Nat.le_refl _) hc
      clear hb2 HC HO HB2 hc
      go_wp2_with (at_builtin; refine wpList_append_own _ rfl _ _ 82 rfl w1.heap.size 88 i0 .nilIface 1 16 Try.underlying82 hi hz0 hz1 hz2 rfl (by decide) _ _ _ rfl (HO2.out.alloc _) ⟨w2.heap.size, 0, none⟩ 1 1 [.iface tt vv] rfl rfl ?c1 ?c2 ?c3 ?c4 ?c5 ?_)
      case c1 =>
        intro j u hj
        match j, hj with
        | 0, hj => simp at hj; subst hj; simp [Addr.add]
      case c2 => intro u hu; simp at hu; subst hu; rfl
      case c3 => unfold maxLen; omega
      case c4 => omega
      case c5 => have := HB3.out.size; simp; omega
      intro v' w3 hown' hgrow _
      have HB4 := hid ((HB3.out.alloc HB3.out.size _).grown hgrow (by have := HB3.out.size; simp; omega) (fun q hq => (World.ownsRow.lt HO2.out q hq).1))
      have HO3 := hid hown'
      clear hown' hgrow
      go_wp2
      go_roundw
      case rel => exact ⟨k + 1, by omega, by go_num, by rw [HS.out]; first | exact HO3.out | (rw [List.map_take]; exact HO3.out), HB4.out⟩
      case measure => simp [intOf]; omega
    · have hke : k = T.length := by omega
      subst hke
      have HO1 := HO.out
      rw [List.take_length] at HO1
      obtain ⟨r, cr, rfl, hcr, -, hr⟩ := RdV.of_row HO1
      have HR := hid hr
      have HBZ := hid (HB0.out.trans (HB2.out.mono HB0.out.size))
      clear hr HO HO1 HB2
      go_wp2
      go_ret
      exact ⟨r, cr, rfl, hcr, HR.out, HBZ.out⟩
end Go.Proofs.Ytapndndbibgjoaa
