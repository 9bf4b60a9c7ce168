/- Package mark: the walks of with, setsOf, canMake. -/
import Derived.Test.YthnklabdjaiplaaDoorMBits
import Derived.RegionTactic
import Derived.BigRegion
import Derived.Deep.RegionHeld3
import Derived.Deep.OwnRows
namespace Go.Proofs.YthnklabdjaiplaaDoor
open Go.RowKit

theorem M.heap8 {w : World} {b : Nat} {u : Nat → Nat} (h : w.rowIs b 79 8 (M.ac u)) : w.heap[b]? = some (.cells #[.int .i64 (u 0 : Nat), .int .i64 (u 1 : Nat), .int .i64 (u 2 : Nat), .int .i64 (u 3 : Nat), .int .i64 (u 4 : Nat), .int .i64 (u 5 : Nat), .int .i64 (u 6 : Nat), .int .i64 (u 7 : Nat)] 79 (0, 0)) := by
  obtain ⟨c, h1, h2, h3⟩ := h
  rw [h1]
  have hc : c = #[.int .i64 (u 0 : Nat), .int .i64 (u 1 : Nat), .int .i64 (u 2 : Nat), .int .i64 (u 3 : Nat), .int .i64 (u 4 : Nat), .int .i64 (u 5 : Nat), .int .i64 (u 6 : Nat), .int .i64 (u 7 : Nat)] := by
    apply Array.ext_getElem?
    intro i
    by_cases hi : i < 8
    · rw [h3 i hi]
      rcases M.alt8 hi with rfl | rfl | rfl | rfl | rfl | rfl | rfl | rfl <;> rfl
    · rw [Array.getElem?_eq_none (by omega), Array.getElem?_eq_none (by simp; omega)]
  rw [hc]

theorem M.res8 {fn : Func} {p : Tmp} (h : fn.results = #[.cell p 79]) (tmps : Array Value) {w : World} {b : Nat} {u : Nat → Nat} (hp : tmps.getD p undef = .pointer (some ⟨b, 0, none⟩)) (hr : w.rowIs b 79 8 (M.ac u)) :
    (results fn tmps).run Tryd.prog w = .ok (M.av u) w :=
  results_cell_row h tmps w b 79 _ (0, 0) _ hp (M.heap8 hr) Tryd.underlying79 rfl (by kernel_rfl)

set_option maxHeartbeats 4000000 in
theorem with_any (s : Nat → Nat) (a : Option Addr) (c : Nat) (l : List Int) (w : World) (hl : l.length ≤ 8) (hm : ∀ k, k < l.length → 0 ≤ l.getD k 0 ∧ l.getD k 0 < 4) (hs : ∀ j, s j < 16) (hx : RdI w a l) :
    Calls Tryd.prog 69 #[M.av s, .slice a l.length c] w fun e w' => e = .returned (M.av (M.wth s l l.length)) ∧ Below w.heap.size w w' := by
  have hrow := M.row8 w s
  have HB0 := hid ((Below.refl w.heap.size w).alloc (Nat.le_refl _) (.cells #[.int .i64 (s 0 : Nat), .int .i64 (s 1 : Nat), .int .i64 (s 2 : Nat), .int .i64 (s 3 : Nat), .int .i64 (s 4 : Nat), .int .i64 (s 5 : Nat), .int .i64 (s 6 : Nat), .int .i64 (s 7 : Nat)] 79))
  have HX := hid hx
  clear hx
  unfold M.av
  go_enter Tryd.func69, Tryd.ntmps69
  go_wp2
  go_loopw [9] (fun i wr => ∃ k : Nat, k ≤ l.length ∧ i = .int .i64 k ∧ wr.rowIs w.heap.size 79 8 (M.ac (M.wth s l k)) ∧ wr.rowIs (w.heap.size + 1) 79 8 (M.ac fun _ => 0) ∧ Below w.heap.size w wr) (fun i _ => l.length - (intOf i).toNat)
  case atStart =>
    refine ⟨0, Nat.zero_le _, rfl, ?_, ?_, HB0.out.alloc (by simp) _⟩
    · exact (hrow.alloc _).congr (fun j _ => by simp [M.ac, M.wth])
    · have := M.row8 (w.alloc (.cells #[.int .i64 (s 0 : Nat), .int .i64 (s 1 : Nat), .int .i64 (s 2 : Nat), .int .i64 (s 3 : Nat), .int .i64 (s 4 : Nat), .int .i64 (s 5 : Nat), .int .i64 (s 6 : Nat), .int .i64 (s 7 : Nat)] 79)) (fun _ => 0)
      rw [World.size_alloc] at this
      exact this
  case round =>
    clear hrow HB0
    obtain ⟨k, hk, rfl, hr1, hr2, hb⟩ := hrel
    have HR1 := hid hr1
    have HR2 := hid hr2
    have HB := hid hb
    by_cases hlt : k < l.length
    · obtain ⟨b2, o2, rfl, hck⟩ := M.num (HX.out.stays hb) hlt
      have hm0 := hm k hlt
      have t1 : wr.cell? ⟨w.heap.size, k, none⟩ = some (.int .i64 ((M.wth s l k k : Nat) : Int)) := hr1.cell (show k < 8 by omega)
      have t2 := hr1.frozen k
      have hwk : M.wth s l k k = s k := by unfold M.wth; rw [if_neg (by omega)]
      have hn : M.wth s l (k + 1) = fun j => if j = k then s k ||| 2 ^ (l.getD k 0).toNat else M.wth s l k j := by
        funext j
        unfold M.wth
        by_cases e : j = k
        · subst e; rw [if_pos (by omega), if_pos rfl]
        · rw [if_neg e]
          by_cases h2 : j < k
          · rw [if_pos (by omega), if_pos h2]
          · rw [if_neg (by omega), if_neg h2]
      rw [hwk] at t1
      have HN : Hid (∀ (v : Value), v = .int .i64 ((s k ||| 2 ^ (l.getD k 0).toNat : Nat) : Int) → (wr.setCell ⟨w.heap.size, k, none⟩ v).rowIs w.heap.size 79 8 (M.ac (M.wth s l (k + 1)))) := hid (fun v hv => (HR1.out.set k v).congr (fun j _ => by
        rw [hn, hv]; unfold M.ac; dsimp only; by_cases e : j = k
        · rw [if_pos e, if_pos e]
        · rw [if_neg e, if_neg e]))
      clear hn hwk hr1 hr2 hb
      have hsk := hs k
      have hu : (2 ^ (l.getD k 0).toNat : Nat) < 16 := Nat.lt_of_le_of_lt (Nat.pow_le_pow_right (by omega) (show (l.getD k 0).toNat ≤ 3 by omega)) (by omega)
      have hsh : wrap64 (2 ^ (l.getD k 0).toNat) = ((2 ^ (l.getD k 0).toNat : Nat) : Int) := by
        have e : (2 ^ (l.getD k 0).toNat : Int) = ((2 ^ (l.getD k 0).toNat : Nat) : Int) := (Int.natCast_pow 2 _).symm
        rw [e]
        generalize (2 ^ (l.getD k 0).toNat : Nat) = u at hu
        unfold wrap64
        omega
      have hor := M.bor (s k) (2 ^ (l.getD k 0).toNat) hsk hu
      have hix : (0 : Int) ≤ (k : Int) ∧ (k : Int) < 8 := by omega
      have hxx : (0 : Int) ≤ l.getD k 0 ∧ l.getD k 0 ≤ 64 := by omega
      generalize hxk : l.getD k 0 = x at *
      generalize (2 ^ x.toNat : Nat) = u at *
      generalize (s k ||| u : Nat) = z at *
      clear hm hs hsk hu hxk hm0
      go_wp2
      go_region
      have HN2 := hid (HN.out _ rfl)
      have HO2 := hid (HR2.out.setOther (a := ⟨w.heap.size, k, none⟩) (by show w.heap.size + 1 ≠ w.heap.size; omega) (.int .i64 (z : Int)))
      have HB2 := hid (HB.out.setCell (p := ⟨w.heap.size, k, none⟩) (Nat.le_refl _) (.int .i64 (z : Int)))
      clear hsh hor hck t1 t2
      go_wp2
      go_roundw
      case rel => exact ⟨k + 1, by omega, by go_num, HN2.out, HO2.out, HB2.out.drew⟩
      case measure => simp [intOf]; omega
    · have hke : k = l.length := by omega
      subst hke
      obtain ⟨c0, c1, c2, c3, c4, c5, c6, c7⟩ := M.c8 hr1
      obtain ⟨f0, f1, f2, f3, f4, f5, f6, f7⟩ := M.f8 hr2
      obtain ⟨d0, d1, d2, d3, d4, d5, d6, d7⟩ := M.c8 hr2
      clear hr1 hr2 hb hs hm
      obtain ⟨u, hu⟩ : ∃ u, M.wth s l l.length = u := ⟨_, rfl⟩
      rw [hu] at c0 c1 c2 c3 c4 c5 c6 c7
      have HU := hid hu
      clear hu
      go_wp2
      have HR3 := hid (M.put8_row HR2.out u)
      have HB3 := hid (M.put8_below HB.out (show w.heap.size ≤ w.heap.size + 1 by omega) u)
      exact bodyPost_ret (M.res8 rfl _ rfl HR3.out) rfl ⟨by rw [HU.out]; rfl, HB3.out⟩

/-- A coalition's members are customers. -/
def M.In (n : Nat) (l : List Int) : Prop := ∀ i, i ∈ l → 0 ≤ i ∧ i < n
theorem M.In.at {n : Nat} {l : List Int} (h : M.In n l) {k : Nat} (hk : k < l.length) : 0 ≤ l.getD k 0 ∧ l.getD k 0 < n := by
  have e : l.getD k 0 = l[k] := by rw [List.getD_eq_getElem?_getD, List.getElem?_eq_getElem hk]; rfl
  rw [e]
  exact h _ (List.getElem_mem hk)
theorem M.In.take {n : Nat} {l : List Int} (h : M.In n l) (k : Nat) : M.In n (l.take k) := fun i hi => h i (List.mem_of_mem_take hi)
theorem M.Co.inn {n : Nat} {l : List Int} (h : M.Co n l) : M.In n l := fun i hi => by
  obtain ⟨k, hk, rfl⟩ := List.getElem_of_mem hi
  have := h.rg k hk
  rwa [show l.getD k 0 = l[k] from by rw [List.getD_eq_getElem?_getD, List.getElem?_eq_getElem hk]; rfl] at this

set_option maxHeartbeats 4000000 in
theorem setsOf_any (m : Int) (a : Option Addr) (c : Nat) (T : List (List Int)) (al : Option Addr) (cl : Nat) (l : List Int) (w : World) (hok : M.Ok m T) (hm : l.length ≤ maxLen) (hin : M.In T.length l) (hT : RdM w a T) (hl : RdI w al l) :
    Calls Tryd.prog 47 #[M.cv m a T.length c, .slice al l.length cl] w fun e w' => e = .returned (M.av (M.so T l)) ∧ Below w.heap.size w w' := by
  unfold maxLen at hm
  obtain ⟨W, hW, c0, c1, hB, hlt⟩ := M.cvNew w m a T.length c
  have HB := hid hB
  have HT := hid (hT.stays hB)
  have HL := hid (hl.stays hB)
  have HOK := hid hok
  have HIN := hid hin
  have hn1 := hok.n1
  clear hB hT hl hok hin
  unfold M.cv
  go_enter Tryd.func47, Tryd.ntmps47
  go_wp2
  rw [hW] at *
  go_loopw [10] (fun i wr => ∃ k : Nat, k ≤ l.length ∧ i = .int .i64 k ∧ wr.rowIs W.heap.size 79 8 (M.ac fun _ => 0) ∧ wr.rowIs (W.heap.size + 1) 79 8 (M.ac (M.so T (l.take k))) ∧ Below W.heap.size W wr) (fun i _ => l.length - (intOf i).toNat)
  case atStart =>
    refine ⟨0, Nat.zero_le _, rfl, (M.row8 W (fun _ => 0)).alloc _, ?_, ((Below.refl _ _).alloc (Nat.le_refl _) _).alloc (by simp) _⟩
    have := M.row8 (W.alloc (.cells #[.int .i64 0, .int .i64 0, .int .i64 0, .int .i64 0, .int .i64 0, .int .i64 0, .int .i64 0, .int .i64 0] 79)) (fun _ => 0)
    rw [World.size_alloc] at this
    exact this
  case round =>
    obtain ⟨k, hk, rfl, hr1, hr2, hb⟩ := hrel
    have HR1 := hid hr1
    have HR2 := hid hr2
    have HBW := hid hb
    by_cases hlt2 : k < l.length
    · have e0 := cell_stays hb (Nat.le_refl _) c0
      have e1 := cell_stays hb (Nat.le_refl _) c1
      obtain ⟨b2, o2, rfl, hck⟩ := M.num (HL.out.stays hb) hlt2
      have hi := HIN.out.at hlt2
      have HST := hid (M.so_take (T := T) hlt2)
      obtain ⟨b3, o3, r3, cr3, rfl, hcr, hrr⟩ := M.row (HT.out.stays hb) (i := (l.getD k 0).toNat) (by omega)
      have hln := HOK.out.len (l.getD k 0).toNat (by omega)
      have hp8 := HOK.out.p8
      have hm4 := HOK.out.m4
      have HCO := hid hrr
      have hix : (0 : Int) ≤ l.getD k 0 ∧ l.getD k 0 < (T.length : Int) := hi
      obtain ⟨g0, g1, g2, g3, g4, g5, g6, g7⟩ := M.c8 hr2
      obtain ⟨f0, f1, f2, f3, f4, f5, f6, f7⟩ := M.f8 hr2
      have HW := hid (fun w' (h : Below wr.heap.size wr w') => with_any (M.so T (l.take k)) r3 cr3 (T.getD (l.getD k 0).toNat []) w' (by omega) (fun j hj => by
        have := HOK.out.rng (l.getD k 0).toNat j (by omega) (by omega); omega) (M.so_lt HOK.out (HIN.out.take k)) (HCO.out.stays h))
      rw [hln] at HW hcr
      generalize M.so T (l.take k) = s at *
      generalize hxx : (T.getD (l.getD k 0).toNat []) = row at *
      generalize l.getD k 0 = x at *
      have HN : Hid (∀ w' : World, w'.rowIs (W.heap.size + 1) 79 8 (M.ac (M.wth s row (M.pl T))) → w'.rowIs (W.heap.size + 1) 79 8 (M.ac (M.so T (l.take (k + 1))))) := hid (fun w' h => by rw [HST.out]; exact h)
      clear hr1 hr2 hb hrr hln f0 f1 f2 f3 f4 f5 f6 f7
      unfold M.av at HW
      go_wp2_with fail
      go_region_with (first | (go_at_call 69; (with_reducible first | refine (HW.out _ (Below.refl _ _).drew).mono ?_ | refine (HW.out _ (Below.refl _ _)).mono ?_); rintro e w5 ⟨rfl, hb5⟩; have R5 : w5.rowIs (W.heap.size + 1) 79 8 (M.ac s) := HR2.out.of_block (hb5.block _ HR2.out.lt); have R6 : w5.rowIs W.heap.size 79 8 (M.ac fun _ => 0) := HR1.out.of_block (hb5.block _ HR1.out.lt); have HR5 := hid R5; have HR6 := hid R6; obtain ⟨f0, f1, f2, f3, f4, f5, f6, f7⟩ := M.f8 R5; obtain ⟨d0, d1, d2, d3, d4, d5, d6, d7⟩ := M.c8 R5; have HB5 := hid ((HBW.out.drew).trans (hb5.mono HBW.out.size)); clear hb5 R5 R6))
      all_goals
        have HP := hid (HN.out _ (M.put8_row HR5.out (M.wth s row (M.pl T))))
        have HP1 := hid (HR6.out.of_block (M.put8_other (show W.heap.size ≠ W.heap.size + 1 by omega) (M.wth s row (M.pl T))))
        have HP2 := hid (M.put8_below HB5.out (show W.heap.size ≤ W.heap.size + 1 by omega) (M.wth s row (M.pl T)))
        go_wp2
        go_roundw
        case rel => exact ⟨k + 1, by omega, by go_num, HP1.out, HP.out, HP2.out⟩
        case measure => simp [intOf]; omega
    · have hke : k = l.length := by omega
      subst hke
      rw [List.take_of_length_le (Nat.le_refl _)] at hr2 HR2
      obtain ⟨e0, e1, e2, e3, e4, e5, e6, e7⟩ := M.c8 hr2
      obtain ⟨d0, d1, d2, d3, d4, d5, d6, d7⟩ := M.c8 hr1
      obtain ⟨f0, f1, f2, f3, f4, f5, f6, f7⟩ := M.f8 hr1
      clear hr1 hr2 hb
      obtain ⟨u, hu⟩ : ∃ u, M.so T l = u := ⟨_, rfl⟩
      rw [hu] at e0 e1 e2 e3 e4 e5 e6 e7 HR2
      have HU := hid hu
      clear hu
      go_wp2
      have HR3 := hid (M.put8_row HR1.out u)
      have HB3 := hid (M.put8_below HBW.out (Nat.le_refl _) u)
      exact bodyPost_ret (M.res8 rfl _ rfl HR3.out) rfl ⟨by rw [HU.out], HB.out.trans (HB3.out.mono HB.out.size)⟩
end Go.Proofs.YthnklabdjaiplaaDoor
