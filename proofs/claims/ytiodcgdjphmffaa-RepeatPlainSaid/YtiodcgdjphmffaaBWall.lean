/- Package tuschelaw08: walls: borders by numbers; an argument that is a wall. -/
import Derived.Test.YtiodcgdjphmffaaBFin
import Derived.Test.YtiodcgdjphmffaaBOpen
namespace Go.Proofs.Ytiodcgdjphmffaa
open Go.ChangeShapes Go.WideShapes Go.RowKit Go.Deep

/-- The slice with this address reads as these small numbers. -/
def RdU (w : World) (a : Option Addr) (xs : List Nat) : Prop :=
  ∀ k (h : k < xs.length), ∃ b off, a = some ⟨b, off, none⟩ ∧ w.cell? ⟨b, off + k, none⟩ = some (.int .u8 (xs[k] : Nat))

theorem RdU.stays {w w' : World} {a : Option Addr} {xs : List Nat} (h : RdU w a xs) (hb : Below w.heap.size w w') : RdU w' a xs := fun k hk => by
  obtain ⟨b, off, ha, hc⟩ := h k hk
  exact ⟨b, off, ha, cell_stays hb (Nat.le_refl _) hc⟩

theorem open_wall {H : Type} {enc : TypeId × Value → H} {W : World} {a : Option Addr} {len cap : Nat} {d : DataW H} {ps : List MemPlace}
    (h : DataW.Trod enc Try.prog W 0 (fun _ => true) true 54 (.slice a len cap) d ps) :
    ∃ xs : List Nat, xs.length = len ∧ len ≤ cap ∧ cap ≤ maxLen ∧ RdU W a xs ∧ ∀ x ∈ xs, x < 256 := by
  obtain ⟨fuel, hf⟩ := h
  rcases open_ints Try.underlying54 Try.underlying5 (by kernel_rfl) hf with ⟨hcs, _⟩ | ⟨x, l, c, zs, hcs, _, hl, hm, hz, _, hcell, hwz⟩
  · simp [Value.cells] at hcs
    obtain ⟨rfl, rfl, rfl⟩ := hcs
    exact ⟨[], rfl, Nat.le_refl _, Nat.zero_le _, fun _ h => absurd h (Nat.not_lt_zero _), fun x hx => by cases hx⟩
  · simp [Value.cells] at hcs
    obtain ⟨rfl, rfl, rfl⟩ := hcs
    have hz' : zs.length = cap := by simpa using hz
    have hb : ∀ n ∈ zs, 0 ≤ n ∧ n < 256 := fun n hn => by
      have hw := hwz n hn
      have h1 : IntKind.u8.min = 0 := rfl
      have h2 : IntKind.u8.max = 255 := rfl
      simp only [Lit.wf, Bool.and_eq_true, decide_eq_true_eq] at hw
      omega
    refine ⟨(zs.take len).map Int.toNat, by rw [List.length_map, List.length_take]; omega, hl, hm, fun k hk => ?_, fun n hn => ?_⟩
    · rw [List.length_map, List.length_take] at hk
      obtain ⟨b, off, rfl, hc⟩ := ints_at hcell (by omega)
      refine ⟨b, off, rfl, ?_⟩
      have := hb _ (List.getElem_mem (show k < zs.length by omega))
      rw [hc k (by omega), List.getElem_map, List.getElem_take, Int.toNat_of_nonneg this.1]
      simp [List.getD, List.getElem?_eq_getElem (show k < zs.length by omega)]
    · obtain ⟨y, hy, rfl⟩ := List.mem_map.1 hn
      have := hb y (List.mem_of_mem_take hy)
      omega


theorem B.one_of (T : List Nat) (j : Nat) (h : j < T.length) : ((B.str (B.byt T)).extract j (B.str (B.byt T)).size).extract 0 1 = ⟨#[UInt8.ofNat (97 + T[j])]⟩ := by
  refine B.ext ?_
  rw [B.take_data, B.drop_data, B.str_data]
  simp only [B.byt, ← List.map_drop, ← List.map_take]
  rw [List.drop_eq_getElem_cons h]
  rfl
theorem B.snoc_str (T : List Nat) (r : Nat) : B.str (B.byt (T ++ [r])) = B.str (B.byt T) ++ ⟨#[UInt8.ofNat (97 + r)]⟩ := B.ext (by
  rw [B.append_data, B.str_data, B.str_data, B.byt_append]; rfl)
theorem B.sz_byt (N : List Nat) : (B.str (B.byt N)).size = N.length := by rw [B.str_size, B.byt]; simp

set_option maxHeartbeats 2000000 in
set_option maxRecDepth 100000 in
theorem wall_any (a : Option Addr) (c : Nat) (xs : List Nat) (most : Nat) (w : World) (hl : xs.length ≤ maxLen) (hm : 1 ≤ most ∧ most ≤ 24) (hx : ∀ x ∈ xs, x < 256) (hr : RdU w a xs) :
    Calls Try.prog 41 #[.slice a xs.length c, .int .i64 most] w fun e w' => (∃ T : List Nat, 1 ≤ T.length ∧ T.length ≤ most ∧ (∀ x ∈ T, x < 3) ∧ e = .returned (.string (B.str (B.byt T)))) ∧ w' = w := by
  unfold maxLen at hl
  have HR := hid hr
  have HX := hid hx
  clear hr hx
  go_enter Try.func41, Try.ntmps41
  go_wp2
  go_loop [5, 6] (fun y z => ∃ (T : List Nat) (i : Nat), i ≤ xs.length ∧ z = .int .i64 i ∧ y = .string (B.str (B.byt T)) ∧ T.length ≤ most ∧ Hid (∀ x ∈ T, x < 3)) (fun _ z => xs.length - (intOf z).toNat)
  case atStart => exact ⟨[], 0, Nat.zero_le _, rfl, rfl, Nat.zero_le _, hid (fun x h => by cases h)⟩
  case round =>
    obtain ⟨T, i, hi, rfl, rfl, hT, HT⟩ := hrel
    have hsz := B.sz_byt T
    have he := empty_of (B.str (B.byt T))
    rw [hsz] at he
    by_cases hlt : i < xs.length
    · have hd1 : decide ((i : Int) < (xs.length : Int)) = true := decide_eq_true (by omega)
      have hd1' : (i : Int) < (xs.length : Int) := by omega
      by_cases hlt2 : T.length < most
      · have hd2 : decide ((T.length : Int) < (most : Int)) = true := decide_eq_true (by omega)
        have hd2' : (T.length : Int) < (most : Int) := by omega
        obtain ⟨b, off, rfl, hcell⟩ := HR.out i hlt
        have hx256 := HX.out _ (List.getElem_mem hlt)
        generalize xs[i] = v at *
        have hwv : IntKind.i64.wrap ((v : Nat) : Int) = (v : Int) := IntWalk.i64_in _ (by omega)
        have hix : (0 : Int) ≤ (i : Int) ∧ (i : Int) < (xs.length : Int) := by omega
        by_cases hg : 128 ≤ v ∧ 0 < T.length
        · have hg1 : decide ((128 : Int) ≤ (v : Int)) = true := decide_eq_true (by omega)
          have hg1' : (128 : Int) ≤ (v : Int) := by omega
          have hg2 : decide ((0 : Int) < (T.length : Int)) = true := decide_eq_true (by omega)
          have hg2' : (0 : Int) < (T.length : Int) := by omega
          have hvm := Nat.mod_lt v hg.2
          have htm : ((v : Nat) : Int).tmod (T.length : Int) = ((v % T.length : Nat) : Int) := by rw [Int.tmod_eq_emod_of_nonneg (by omega)]; push_cast; rfl
          have hj : T.length - 1 - v % T.length < T.length := by omega
          have hne : ¬ (T.length : Int) = 0 := by omega
          have hsub : (T.length : Int) - 1 - ((v : Int) % (T.length : Int)) = ((T.length - 1 - v % T.length : Nat) : Int) := by
            have : ((v % T.length : Nat) : Int) = (v : Int) % (T.length : Int) := by push_cast; rfl
            omega
          have H1 := B.one_of T _ hj
          rw [hsz] at H1
          generalize T.length - 1 - v % T.length = j at *
          have hS := B.snoc_str T T[j]
          have hTj := HT.out _ (List.getElem_mem hj)
          have HT2 : Hid (∀ x ∈ T ++ [T[j]], x < 3) := hid (fun x hx => by
            rcases List.mem_append.1 hx with h | h
            · exact HT.out x h
            · rw [List.mem_singleton] at h; rw [h]; exact hTj)
          generalize UInt8.ofNat (97 + T[j]) = xb at *
          have HS := hid hS
          clear hvm hS hTj
          go_wp2
          go_round
          case rel => exact ⟨T ++ [T[j]], i + 1, by omega, by go_num, by rw [HS.out], by rw [List.length_append, List.length_singleton]; omega, HT2⟩
          case measure => simp [intOf]; omega
        · have hr3 : v % 3 = 0 ∨ v % 3 = 1 ∨ v % 3 = 2 := by omega
          have HS := hid (B.snoc_str T)
          have HT2 : Hid (∀ r, r < 3 → ∀ x ∈ T ++ [r], x < 3) := hid (fun r hr x hx => by
            rcases List.mem_append.1 hx with h | h
            · exact HT.out x h
            · rw [List.mem_singleton] at h; rw [h]; exact hr)
          by_cases hg1 : 128 ≤ v
          · have hgd : decide ((128 : Int) ≤ (v : Int)) = true := decide_eq_true (by omega)
            have hgd' : (128 : Int) ≤ (v : Int) := by omega
            have hg2 : decide ((0 : Int) < (T.length : Int)) = false := decide_eq_false (by omega)
            have hg2' : ¬ (0 : Int) < (T.length : Int) := by omega
            rcases hr3 with hr | hr | hr
            all_goals
              have hri : ((v : Nat) : Int) % 3 = ((v % 3 : Nat) : Int) := by push_cast; rfl
              rw [hr] at hri
              clear hg hg1
              go_wp2
              go_round
              case rel => exact ⟨T ++ [v % 3], i + 1, by omega, by go_num, by rw [HS.out, hr]; rfl, by rw [List.length_append, List.length_singleton]; omega, hid (HT2.out _ (Nat.mod_lt _ (by decide)))⟩
              case measure => simp [intOf]; omega
          · have hgd : decide ((128 : Int) ≤ (v : Int)) = false := decide_eq_false (by omega)
            have hgd' : ¬ (128 : Int) ≤ (v : Int) := by omega
            rcases hr3 with hr | hr | hr
            all_goals
              have hri : ((v : Nat) : Int) % 3 = ((v % 3 : Nat) : Int) := by push_cast; rfl
              rw [hr] at hri
              clear hg hg1
              go_wp2
              go_round
              case rel => exact ⟨T ++ [v % 3], i + 1, by omega, by go_num, by rw [HS.out, hr]; rfl, by rw [List.length_append, List.length_singleton]; omega, hid (HT2.out _ (Nat.mod_lt _ (by decide)))⟩
              case measure => simp [intOf]; omega
      · have hd2 : decide ((T.length : Int) < (most : Int)) = false := decide_eq_false (by omega)
        have hd2' : ¬ (T.length : Int) < (most : Int) := by omega
        rw [show decide (T.length = 0) = false from decide_eq_false (by omega)] at he
        go_wp2
        go_ret
        exact ⟨⟨T, by omega, hT, HT.out, rfl⟩, rfl⟩
    · have hd1 : decide ((i : Int) < (xs.length : Int)) = false := decide_eq_false (by omega)
      have hd1' : ¬ (i : Int) < (xs.length : Int) := by omega
      by_cases h0 : T.length = 0
      · rw [show decide (T.length = 0) = true from decide_eq_true h0] at he
        go_wp2
        go_ret
        exact ⟨⟨[0], by decide, hm.1, fun x hx => by rw [List.mem_singleton] at hx; omega, rfl⟩, rfl⟩
      · rw [show decide (T.length = 0) = false from decide_eq_false h0] at he
        go_wp2
        go_ret
        exact ⟨⟨T, by omega, hT, HT.out, rfl⟩, rfl⟩
end Go.Proofs.Ytiodcgdjphmffaa
