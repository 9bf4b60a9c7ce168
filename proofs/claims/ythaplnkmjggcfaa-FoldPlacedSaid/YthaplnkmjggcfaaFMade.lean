/- Package fold's laws: the walk of (Map).made: a strip by numbers is a valid strip. No condition. -/
import Derived.Test.YthaplnkmjggcfaaFMadeAt
import Derived.Deep.AppendLies
namespace Go.Proofs.Ythaplnkmjggcfaa
open Go.RowKit

/-- A length by a number. -/
def F.len1 (x : Nat) : Int := 1 + ((x % 5 : Nat) : Int)

theorem F.len1_wrap (x : Nat) : IntKind.i64.wrap (1 + ((x : Nat) : Int).tmod 5) = F.len1 x := by
  rw [Int.tmod_eq_emod_of_nonneg (by omega), IntKind.wrap_i64]
  unfold F.len1
  omega

/-- The lengths by the first k numbers. -/
def F.lensOf (xs : List Nat) (k : Nat) : List Int := (xs.take k).map F.len1

theorem F.lensOf_succ {xs : List Nat} {k : Nat} (h : k < xs.length) : F.lensOf xs (k + 1) = F.lensOf xs k ++ [F.len1 xs[k]] := by
  unfold F.lensOf
  rw [List.take_succ_eq_append_getElem h, List.map_append]
  rfl

theorem F.lensOf_length {xs : List Nat} {k : Nat} (h : k ≤ xs.length) : (F.lensOf xs k).length = k := by simp [F.lensOf]; omega

theorem F.lensOf_good (xs : List Nat) (k : Nat) : ∀ x ∈ F.lensOf xs k, 1 ≤ x ∧ x ≤ 5 := fun x hx => by
  obtain ⟨y, _, rfl⟩ := List.mem_map.1 hx
  unfold F.len1
  omega

theorem and_one : ∀ x : Nat, x < 256 → bits .and .u8 (x : Int) 1 = ((x % 2 : Nat) : Int) := by
  have h : ∀ x : Fin 256, bits .and .u8 ((x.val : Nat) : Int) 1 = ((x.val % 2 : Nat) : Int) := by decide +kernel
  exact fun x hx => h ⟨x, hx⟩

/-- One more letter. -/
theorem F.all_push {st st' : ByteArray} {k : Nat} (u : UInt8) (hu : F.fold u = true) (h : st.size = k) (ha : st.data.toList.all F.fold = true) (e : st'.data.toList = st.data.toList ++ [u]) :
    st'.size = k + 1 ∧ st'.data.toList.all F.fold = true := by
  constructor
  · have h1 : st'.size = st'.data.toList.length := by rw [Array.length_toList]; rfl
    have h2 : st.size = st.data.toList.length := by rw [Array.length_toList]; rfl
    rw [h1, e, List.length_append, ← h2, h]
    rfl
  · rw [e, List.all_append, ha]
    simp [hu]

theorem F.cat1 (st t : ByteArray) (u : UInt8) (h : t.data.toList = [u]) : (st ++ t).data.toList = st.data.toList ++ [u] := by
  rw [ByteArray.data_append, Array.toList_append, h]

set_option maxHeartbeats 1000000 in
set_option maxRecDepth 100000 in
theorem list_any (v : Value) (w : World) : Calls Try.prog 44 #[v] w fun e w' => e = .returned v ∧ w' = w := by
  go_enter Try.func44, Try.ntmps44
  go_wp2
  go_ret
  exact ⟨rfl, rfl⟩

set_option linter.unusedVariables false in
set_option maxHeartbeats 2000000 in
set_option maxRecDepth 100000 in
theorem made_any (a : Option Addr) (c : Nat) (xs : List Nat) (f : Nat) (w : World) (hc : xs.length ≤ c) (hm : c ≤ maxLen) (hx : RdU w a xs) (hlt : ∀ x ∈ xs, x < 256) (hf : f < 256) :
    Calls Try.prog 39 #[.agg #[.slice a xs.length c, .int .u8 f]] w
      fun e w' => ∃ b d l st, e = .returned (F.strip b l.length d st) ∧ 1 ≤ l.length ∧ l.length ≤ 6 ∧ (∀ x ∈ l, 1 ≤ x ∧ x ≤ 5) ∧ st.size = l.length - 1 ∧ st.data.toList.all F.fold = true ∧ RdI w' b l ∧ Below w.heap.size w w' := by
  obtain ⟨i0, hi, hz0, hz1, hz2⟩ := info_parts (show (Try.prog.info? 3).map (fun i => (i.zero, i.size, i.bytes)) = some (some (.int .i64 0), 1, 8) by kernel_rfl)
  have HX := hid hx
  have HLT := hid hlt
  have HM0 := hid (F.made_start w a xs.length c f)
  clear hx hlt
  go_enter Try.func39, Try.ntmps39
  go_wp2
  go_loopg [4] 7 (fun g i wr => ∃ (k : Nat) (v : Value), k ≤ xs.length ∧ k ≤ 6 ∧ g = 7 - k ∧ i = .int .i64 k ∧ F.MadeAt w wr a xs.length c f v (F.lensOf xs k) ⟨#[]⟩)
  case atStart => exact ⟨0, _, Nat.zero_le _, by omega, rfl, rfl, HM0.out⟩
  case round =>
    clear HM0
    obtain ⟨k, v, hk, hk6, rfl, rfl, hO⟩ := hrel
    have HO := hid hO
    have hkl : (F.lensOf xs k).length = k := F.lensOf_length hk
    obtain ⟨av, cv, rfl⟩ := hO.own.any
    rw [hkl] at HO
    have b1 : wr.cell? ⟨w.heap.size, 0, none⟩ = some (.slice a xs.length c) := HO.out.bx.cell (i := 0) (by omega)
    have s1 : wr.cell? ⟨w.heap.size + 1 + 1, 0, none⟩ = some (.slice av k cv) := HO.out.sx.cell (i := 0) (by omega)
    clear hO
    by_cases hgo : k < xs.length ∧ k < 6
    · obtain ⟨hkn, hk5⟩ := hgo
      obtain ⟨bb, ob, rfl, hcx0⟩ := HX.out k hkn
      have hcx := cell_stays HO.out.below (Nat.le_refl _) hcx0
      have hbb := World.block_lt_of_cell? _ _ hcx0
      have HX8 := hid (HLT.out xs[k] (List.getElem_mem hkn))
      have hwr := F.len1_wrap xs[k]
      have hL := F.lensOf_succ hkn
      generalize hy : F.len1 xs[k] = y at hwr hL
      have HL := hid hL
      generalize hz : xs[k] = z at hcx hcx0 hwr HX8
      have hwz : IntKind.i64.wrap (z : Int) = (z : Int) := by have := HX8.out; rw [IntKind.wrap_i64]; omega
      have hge := HO.out.ge
      have SF := hid (show ∀ W : World, (∀ q, q < w.heap.size + 3 → W.heap[q]? = wr.heap[q]?) → W.cell? ⟨w.heap.size + 1 + 1, 0, none⟩ = some (.slice av k cv) ∧ W.frozen? ⟨w.heap.size + 1 + 1, 0, none⟩ = false from fun W hW =>
        ⟨(World.cell?_of_block (hW (w.heap.size + 1 + 1) (by omega))).trans s1, (World.frozen?_of_block (hW (w.heap.size + 1 + 1) (by omega))).trans (HO.out.sx.frozen 0)⟩)
      have HF := hid (show ∀ Wa w4 : World, Wa.grownBy w4 (Value.ownBlock (.slice av k cv)) → Wa.heap = (wr.alloc (.cells #[.int .i64 y] 3)).heap → ∀ q, q < w.heap.size + 3 → w4.heap[q]? = wr.heap[q]? from fun Wa w4 hg hWa q hq => by
        rw [hg.block q (by rw [hWa]; simp; omega) (fun e => by have := (OwnV.lt HO.out.own q e.symm).1; omega), hWa]
        exact Below.heap_alloc _ _ _ (by omega))
      have FA := hid (show ∀ W : World, W.heap = (wr.alloc (.cells #[.int .i64 y] 3)).heap → W.ownsRow (w.heap.size + 3) 3 1 (.slice av k cv) k ((F.lensOf xs k).map (Value.int .i64)) ∧ [Value.int .i64 y].length = 1 ∧ (∀ j u, [Value.int .i64 y][j]? = some u → W.cell? ((⟨wr.heap.size, 0, none⟩ : Addr).add j) = some u) ∧ (∀ u ∈ [Value.int .i64 y], u.oneCell' = true) ∧ k + 1 ≤ 1000 ∧ w.heap.size + 3 ≤ W.heap.size from fun W hW => by
        refine ⟨ownsRow_heap (World.ownsRow.alloc (by have := HO.out.own; unfold OwnV at this; rwa [hkl] at this) _) hW, rfl, ?_, fun u hu => by simp at hu; subst hu; rfl, by omega, by rw [hW]; simp; omega⟩
        intro j u hj
        match j, hj with
        | 0, hj => simp at hj; subst hj; rw [cell_heap hW]; simp [Addr.add])
      have hk1 : (0 : Int) ≤ (k : Int) ∧ (k : Int) < (xs.length : Int) := by omega
      have hwk : IntKind.i64.wrap ((k : Int) + 1) = (k : Int) + 1 := by rw [IntKind.wrap_i64]; omega
      clear hcx0 hbb hy hz hL hge
      go_wp2
      have qa := (SF.out (wr.alloc (.cells #[.int .i64 y] 3)) (fun q hq => Below.heap_alloc wr _ q (by have := HO.out.ge; omega))).1
      go_region_law first | (refine step_append_at rfl (.tmp 18) (.tmp 27) 22 (by rfl) 3 i0 (.int .i64 0) Try.underlying22 hi hz0 hz1 (by rw [hz2]; decide) rfl (w.heap.size + 3) (.slice av k cv) k ((F.lensOf xs k).map (Value.int .i64)) (by simp [Act.eval]) ⟨wr.heap.size, 0, none⟩ 1 1 [.int .i64 y] (by simp [Act.eval]) (FA.out _ rfl) ?_; intro v1 w4 ho1 hg1 ha1; obtain ⟨g6, c6, rfl, hg6⟩ := World.ownsRow.form ho1 (by omega); have qS := (SF.out w4 (HF.out _ w4 hg1 rfl)).1; have qF := (SF.out w4 (HF.out _ w4 hg1 rfl)).2)
      all_goals clear qS qF qa SF HF FA hk1 ha1 hg6 b1 s1 hcx
      all_goals (try go_wp2)
      all_goals
        go_roundg (7 - (k + 1))
        case measure => omega
        case rel =>
          refine ⟨k + 1, .slice (some ⟨g6, 0, none⟩) (k + 1) c6, by omega, by omega, rfl, by go_num, ?_⟩
          rw [HL.out]
          refine F.made_step HO.out y (by exact ⟨rfl, rfl, rfl, rfl⟩) ?_ hg1 (by exact ⟨rfl, rfl, rfl, rfl⟩)
          rw [hkl]
          exact ho1
    · have hgood := F.lensOf_good xs k
      have f1 : wr.frozen? ⟨w.heap.size + 1 + 1, 0, none⟩ = false := HO.out.sx.frozen 0
      have hend : k = xs.length ∨ k = 6 := by omega
      have HGD := hid hgood
      clear hgood
      by_cases hk0 : k = 0
      · subst hk0
        have hx0 : xs.length = 0 := by omega
        have hge := HO.out.ge
        have f2 : (wr.alloc (.cells #[.int .i64 2] 3)).frozen? ⟨w.heap.size + 1 + 1, 0, none⟩ = false := (HO.out.sx.alloc _).frozen 0
        have c2 : (wr.alloc (.cells #[.int .i64 2] 3)).cell? ⟨w.heap.size + 1 + 1, 0, none⟩ = some (.slice av 0 cv) := (HO.out.sx.alloc _).cell (i := 0) (by omega)
        have HO2 := hid (F.made_two (W := ((wr.alloc (.cells #[.int .i64 2] 3)).setCell ⟨w.heap.size + 1 + 1, 0, none⟩ (.slice (some ⟨wr.heap.size, 0, none⟩) 1 1))) HO.out (by exact ⟨rfl, rfl, rfl, rfl⟩))
        obtain ⟨n1, hn1⟩ : ∃ n1 : Nat, n1 = 1 := ⟨1, rfl⟩
        have g1 : (((wr.alloc (.cells #[.int .i64 2] 3)).setCell ⟨w.heap.size + 1 + 1, 0, none⟩ (.slice (some ⟨wr.heap.size, 0, none⟩) 1 1))).cell? ⟨w.heap.size + 1 + 1, 0, none⟩ = some (.slice (some ⟨wr.heap.size, 0, none⟩) n1 1) := by rw [hn1]; exact HO2.out.sx.cell (i := 0) (by omega)
        obtain ⟨m, hm1⟩ : ∃ m : Nat, m + 1 = n1 := ⟨0, by omega⟩
        have hw1 : IntKind.i64.wrap ((n1 : Int) - 1) = (m : Int) := by rw [IntKind.wrap_i64]; omega
        have HM1 := hid (show m = 0 by omega)
        clear hend hgo hge hn1 hm1
        go_wp2_with fail
        refine (list_any _ _).mono ?_
        rintro e w2 ⟨rfl, hw2⟩
        subst hw2
        go_wp2
        generalize ((wr.alloc (.cells #[.int .i64 2] 3)).setCell ⟨w.heap.size + 1 + 1, 0, none⟩ (.slice (some ⟨wr.heap.size, 0, none⟩) 1 1)) = wq at *
        clear f1 b1 s1 f2 c2 g1 HO
        obtain ⟨v, l, hO2, HL, HV⟩ : ∃ v l, F.MadeAt w wq a xs.length c f v l ⟨#[]⟩ ∧ Hid (l.length = m + 1 ∧ m + 1 ≤ 6 ∧ ∀ x ∈ l, 1 ≤ x ∧ x ≤ 5) ∧ Hid (∃ a2 c2, v = .slice a2 l.length c2) :=
          ⟨_, _, HO2.out, hid ⟨by rw [HM1.out]; rfl, by have := HM1.out; omega, fun x hx => by simp at hx; omega⟩, hid ⟨_, _, rfl⟩⟩
        clear HO2
        have HO2 := hid hO2
        clear hO2
        go_loopg [41] m (fun g i wr => ∃ (j : Nat) (st : ByteArray), j ≤ m ∧ g = m - j ∧ i = .int .i64 j ∧ st.size = j ∧ st.data.toList.all F.fold = true ∧ F.MadeAt w wr a xs.length c f v l st)
        case atStart => exact ⟨0, _, Nat.zero_le _, by omega, rfl, rfl, rfl, HO2.out⟩
        case round =>
          clear HO2
          obtain ⟨j, st, hj, rfl, rfl, hst, hall, hQ⟩ := hrel
          have HQ := hid hQ
          have HST := hid hst
          have HALL := hid hall
          clear hQ hst hall
          have hl7 := HL.out
          by_cases hjm : j < m
          · have b2 : wr.cell? ⟨w.heap.size, 1, none⟩ = some (.int .u8 f) := HQ.out.bx.cell (i := 1) (by omega)
            have s2 : wr.cell? ⟨w.heap.size + 1 + 1, 1, none⟩ = some (.string st) := HQ.out.sx.cell (i := 1) (by omega)
            have f2 : wr.frozen? ⟨w.heap.size + 1 + 1, 1, none⟩ = false := HQ.out.sx.frozen 1
            obtain ⟨x, hx⟩ : ∃ x : Nat, x = f / 2 ^ j := ⟨_, rfl⟩
            have hx256 : x < 256 := by rw [hx]; exact Nat.lt_of_le_of_lt (Nat.div_le_self _ _) hf
            have hsh : ((f : Int) / 2 ^ j) = (x : Int) := by rw [hx]; simp
            have hj8 : (0 : Int) ≤ (j : Int) ∧ (j : Int) ≤ 8 := by omega
            have hwj : IntKind.i64.wrap ((j : Int) + 1) = (j : Int) + 1 := by rw [IntKind.wrap_i64]; omega
            have hand := and_one x hx256
            have hnb : ¬ 9223372036854775807 < st.size + 1 := by rw [HST.out]; omega
            clear hx hx256
            rcases Nat.mod_two_eq_zero_or_one x with hx2 | hx2
            · rw [hx2] at hand
              clear hx2
              go_wp2
              go_region_law fail
              all_goals clear b2 s2 f2
              all_goals (try go_wp2)
              all_goals
                have hp := F.all_push (st' := st ++ (ByteArray.mk #[109, 118] |>.extract 0 2).extract 0 1) 109 (by decide) HST.out HALL.out (F.cat1 _ _ _ (by decide))
                go_roundg (m - (j + 1))
                case measure => omega
                case rel => exact ⟨j + 1, _, by omega, rfl, by go_num, hp.1, hp.2, F.made_text HQ.out _ (by exact ⟨rfl, rfl, rfl, rfl⟩)⟩
            · rw [hx2] at hand
              clear hx2
              go_wp2
              go_region_law fail
              all_goals clear b2 s2 f2
              all_goals (try go_wp2)
              all_goals
                have hp := F.all_push (st' := st ++ (ByteArray.mk #[109, 118] |>.extract 1 2).extract 0 1) 118 (by decide) HST.out HALL.out (F.cat1 _ _ _ (by decide))
                go_roundg (m - (j + 1))
                case measure => omega
                case rel => exact ⟨j + 1, _, by omega, rfl, by go_num, hp.1, hp.2, F.made_text HQ.out _ (by exact ⟨rfl, rfl, rfl, rfl⟩)⟩
          · obtain rfl : j = m := by omega
            obtain ⟨a2, c2, rfl⟩ := HV.out
            have s1 : wr.cell? ⟨w.heap.size + 1 + 1, 0, none⟩ = some (.slice a2 l.length c2) := HQ.out.sx.cell (i := 0) (by omega)
            have s2 : wr.cell? ⟨w.heap.size + 1 + 1, 1, none⟩ = some (.string st) := HQ.out.sx.cell (i := 1) (by omega)
            have r1 : wr.cell? ⟨w.heap.size + 1, 0, none⟩ = some (.slice none 0 0) := HQ.out.rs.cell (i := 0) (by omega)
            have r2 : wr.cell? ⟨w.heap.size + 1, 1, none⟩ = some (.string ⟨#[]⟩) := HQ.out.rs.cell (i := 1) (by omega)
            have z1 : wr.frozen? ⟨w.heap.size + 1, 0, none⟩ = false := HQ.out.rs.frozen 0
            have z2 : wr.frozen? ⟨w.heap.size + 1, 1, none⟩ = false := HQ.out.rs.frozen 1
            have HD := hid (F.made_done (W := (wr.setCell ⟨w.heap.size + 1, 0, none⟩ (.slice a2 l.length c2)).setCell ⟨w.heap.size + 1, 1, none⟩ (.string st)) HQ.out (by exact ⟨rfl, rfl, rfl, rfl⟩))
            clear HQ hl7
            go_wp2
            exact bodyPost_ret (results_cell_row rfl _ _ (w.heap.size + 1) 24 _ (0, 0) _ rfl HD.out.2.2 Try.underlying24 rfl (by kernel_rfl)) rfl
              ⟨a2, c2, l, st, rfl, by have := HL.out; omega, by have := HL.out; omega, HL.out.2.2, by rw [HST.out]; have := HL.out; omega, HALL.out, OwnV.rd HD.out.1, HD.out.2.1⟩
      · by_cases hkn : k < xs.length
        all_goals
          obtain ⟨m, hm1⟩ : ∃ m : Nat, m + 1 = k := ⟨k - 1, by omega⟩
          have hw1 : IntKind.i64.wrap ((k : Int) - 1) = (m : Int) := by rw [IntKind.wrap_i64]; omega
          have HM1 := hid hm1
          have hk0b : ((k : Int) == 0) = false := by simpa using hk0
          clear hm1 hk0
          go_wp2
          obtain ⟨v, l, hO2, HL, HV⟩ : ∃ v l, F.MadeAt w wr a xs.length c f v l ⟨#[]⟩ ∧ Hid (l.length = m + 1 ∧ m + 1 ≤ 6 ∧ ∀ x ∈ l, 1 ≤ x ∧ x ≤ 5) ∧ Hid (∃ a2 c2, v = .slice a2 l.length c2) :=
            ⟨_, _, HO.out, hid ⟨by rw [hkl, HM1.out], by have := HM1.out; omega, HGD.out⟩, hid ⟨av, cv, by rw [hkl]⟩⟩
          clear f1 b1 s1 HO HGD hkl
          have HO2 := hid hO2
          clear hO2
          go_loopg [41] m (fun g i wr => ∃ (j : Nat) (st : ByteArray), j ≤ m ∧ g = m - j ∧ i = .int .i64 j ∧ st.size = j ∧ st.data.toList.all F.fold = true ∧ F.MadeAt w wr a xs.length c f v l st)
          case atStart => exact ⟨0, _, Nat.zero_le _, by omega, rfl, rfl, rfl, HO2.out⟩
          case round =>
            clear HO2
            obtain ⟨j, st, hj, rfl, rfl, hst, hall, hQ⟩ := hrel
            have HQ := hid hQ
            have HST := hid hst
            have HALL := hid hall
            clear hQ hst hall
            have hl7 := HL.out
            by_cases hjm : j < m
            · have b2 : wr.cell? ⟨w.heap.size, 1, none⟩ = some (.int .u8 f) := HQ.out.bx.cell (i := 1) (by omega)
              have s2 : wr.cell? ⟨w.heap.size + 1 + 1, 1, none⟩ = some (.string st) := HQ.out.sx.cell (i := 1) (by omega)
              have f2 : wr.frozen? ⟨w.heap.size + 1 + 1, 1, none⟩ = false := HQ.out.sx.frozen 1
              obtain ⟨x, hx⟩ : ∃ x : Nat, x = f / 2 ^ j := ⟨_, rfl⟩
              have hx256 : x < 256 := by rw [hx]; exact Nat.lt_of_le_of_lt (Nat.div_le_self _ _) hf
              have hsh : ((f : Int) / 2 ^ j) = (x : Int) := by rw [hx]; simp
              have hj8 : (0 : Int) ≤ (j : Int) ∧ (j : Int) ≤ 8 := by omega
              have hwj : IntKind.i64.wrap ((j : Int) + 1) = (j : Int) + 1 := by rw [IntKind.wrap_i64]; omega
              have hand := and_one x hx256
              have hnb : ¬ 9223372036854775807 < st.size + 1 := by rw [HST.out]; omega
              clear hx hx256
              rcases Nat.mod_two_eq_zero_or_one x with hx2 | hx2
              · rw [hx2] at hand
                clear hx2
                go_wp2
                go_region_law fail
                all_goals clear b2 s2 f2
                all_goals (try go_wp2)
                all_goals
                  have hp := F.all_push (st' := st ++ (ByteArray.mk #[109, 118] |>.extract 0 2).extract 0 1) 109 (by decide) HST.out HALL.out (F.cat1 _ _ _ (by decide))
                  go_roundg (m - (j + 1))
                  case measure => omega
                  case rel => exact ⟨j + 1, _, by omega, rfl, by go_num, hp.1, hp.2, F.made_text HQ.out _ (by exact ⟨rfl, rfl, rfl, rfl⟩)⟩
              · rw [hx2] at hand
                clear hx2
                go_wp2
                go_region_law fail
                all_goals clear b2 s2 f2
                all_goals (try go_wp2)
                all_goals
                  have hp := F.all_push (st' := st ++ (ByteArray.mk #[109, 118] |>.extract 1 2).extract 0 1) 118 (by decide) HST.out HALL.out (F.cat1 _ _ _ (by decide))
                  go_roundg (m - (j + 1))
                  case measure => omega
                  case rel => exact ⟨j + 1, _, by omega, rfl, by go_num, hp.1, hp.2, F.made_text HQ.out _ (by exact ⟨rfl, rfl, rfl, rfl⟩)⟩
            · obtain rfl : j = m := by omega
              obtain ⟨a2, c2, rfl⟩ := HV.out
              have s1 : wr.cell? ⟨w.heap.size + 1 + 1, 0, none⟩ = some (.slice a2 l.length c2) := HQ.out.sx.cell (i := 0) (by omega)
              have s2 : wr.cell? ⟨w.heap.size + 1 + 1, 1, none⟩ = some (.string st) := HQ.out.sx.cell (i := 1) (by omega)
              have r1 : wr.cell? ⟨w.heap.size + 1, 0, none⟩ = some (.slice none 0 0) := HQ.out.rs.cell (i := 0) (by omega)
              have r2 : wr.cell? ⟨w.heap.size + 1, 1, none⟩ = some (.string ⟨#[]⟩) := HQ.out.rs.cell (i := 1) (by omega)
              have z1 : wr.frozen? ⟨w.heap.size + 1, 0, none⟩ = false := HQ.out.rs.frozen 0
              have z2 : wr.frozen? ⟨w.heap.size + 1, 1, none⟩ = false := HQ.out.rs.frozen 1
              have HD := hid (F.made_done (W := (wr.setCell ⟨w.heap.size + 1, 0, none⟩ (.slice a2 l.length c2)).setCell ⟨w.heap.size + 1, 1, none⟩ (.string st)) HQ.out (by exact ⟨rfl, rfl, rfl, rfl⟩))
              clear HQ hl7
              go_wp2
              exact bodyPost_ret (results_cell_row rfl _ _ (w.heap.size + 1) 24 _ (0, 0) _ rfl HD.out.2.2 Try.underlying24 rfl (by kernel_rfl)) rfl
                ⟨a2, c2, l, st, rfl, by have := HL.out; omega, by have := HL.out; omega, HL.out.2.2, by rw [HST.out]; have := HL.out; omega, HALL.out, OwnV.rd HD.out.1, HD.out.2.1⟩
end Go.Proofs.Ythaplnkmjggcfaa
