/- Package ink: the walks of checkColour and checkAscending. -/
import Derived.Test.YtapndndbibgjoaaIChk
namespace Go.Proofs.Ytapndndbibgjoaa
open Go.RowKit

/-- What a good palette is. -/
structure K.Good (n : Int) (T : List (List Int)) : Prop where
  lo : 2 ≤ n
  hi : n ≤ 7
  some : 1 ≤ T.length
  few : T.length ≤ 6
  len : ∀ k (h : k < T.length), (T[k].length : Int) = n
  dig : ∀ k (h : k < T.length), ∀ j (h' : j < T[k].length), 0 ≤ T[k][j] ∧ T[k][j] < n

theorem K.rows_zero {n : Int} : ∀ {T : List (List Int)}, K.rows n T = 0 → ∀ r ∈ T, K.row n r = 0
  | [], _, r, h => by cases h
  | q :: T, h, r, hr => by
    unfold K.rows at h
    split at h
    · rename_i h1; exact absurd h h1
    · rename_i h1
      rcases List.mem_cons.1 hr with rfl | hr
      · simpa using h1
      · exact K.rows_zero h r hr

theorem K.good_of {n : Int} {T : List (List Int)} (h : K.check n T = 0) : K.Good n T := by
  unfold K.check at h
  split at h
  · omega
  rename_i h1
  split at h
  · omega
  rename_i h2
  split at h
  · omega
  rename_i h3
  have hr : ∀ k (h : k < T.length), (T[k].length : Int) = n ∧ T[k].any (K.out n) = false := fun k hk => by
    have hz := K.rows_zero h T[k] (List.getElem_mem hk)
    unfold K.row at hz
    split at hz
    · omega
    rename_i h4
    split at hz
    · omega
    rename_i h5
    exact ⟨by omega, by simpa using h5⟩
  refine ⟨by omega, by omega, by omega, by omega, fun k hk => (hr k hk).1, fun k hk j hj => ?_⟩
  have := (hr k hk).2
  rw [List.any_eq_false] at this
  have := this T[k][j] (List.getElem_mem hj)
  unfold K.out at this
  simp at this
  omega

set_option maxHeartbeats 1000000 in
set_option maxRecDepth 100000 in
theorem checkColour_any (n x : Int) (a : Option Addr) (c : Nat) (T : List (List Int)) (w : World) (hm : T.length ≤ maxLen) (hT : RdM w a T) :
    Calls Try.prog 71 #[K.pal n a T.length c, .int .i64 x] w fun e w' => e = .returned (.int .i64 (if K.check n T ≠ 0 then K.check n T else if K.out n x = true then 4 else 0)) ∧ Below w.heap.size w w' := by
  have hb0 : Below w.heap.size w (w.alloc (.cells #[.int .i64 n, .slice a T.length c] 24)) := (Below.refl _ _).alloc (Nat.le_refl _) _
  have k0 : (w.alloc (.cells #[.int .i64 n, .slice a T.length c] 24)).cell? ⟨w.heap.size, 0, none⟩ = some (.int .i64 n) := by rw [World.cell?_alloc_at _ _ _ _ rfl]; rfl
  have k1 : (w.alloc (.cells #[.int .i64 n, .slice a T.length c] 24)).cell? ⟨w.heap.size, 1, none⟩ = some (.slice a T.length c) := by rw [World.cell?_alloc_at _ _ _ _ rfl]; rfl
  have HB0 := hid hb0
  have HK0 := hid k0
  have HC := hid (inkCheck_any n a c T _ hm (hT.stays hb0))
  clear hb0 hT
  unfold K.pal at HC ⊢
  by_cases h0 : K.check n T = 0
  · rw [if_neg (by omega)]
    rw [h0] at HC
    obtain ⟨o, ho⟩ : ∃ o, o = K.out n x := ⟨_, rfl⟩
    have HW := hid (fun W => within_any x n W)
    have HV : Hid ((if K.out n x = true then 4 else 0 : Int) = if o = true then 4 else 0) := hid (by rw [ho])
    rw [HV.out]
    rw [← ho] at HW
    clear HV ho
    cases o with
    | true =>
      rw [if_pos rfl]
      go_enter Try.func71, Try.ntmps71
      go_wp2_with fail
      generalize w.alloc (.cells #[.int .i64 n, .slice a T.length c] 24) = w1 at *
      refine HC.out.mono ?_
      rintro e w2 ⟨rfl, hb⟩
      have q0 := cell_stays hb (Nat.le_refl _) HK0.out
      have HB2 := hid (HB0.out.trans (hb.mono HB0.out.size))
      clear hb HC k0 k1
      go_wp2_with fail
      refine (HW.out _).mono ?_
      rintro e w3 ⟨rfl, rfl⟩
      go_wp2
      go_ret
      exact ⟨rfl, HB2.out⟩
    | false =>
      rw [if_neg (by simp)]
      go_enter Try.func71, Try.ntmps71
      go_wp2_with fail
      generalize w.alloc (.cells #[.int .i64 n, .slice a T.length c] 24) = w1 at *
      refine HC.out.mono ?_
      rintro e w2 ⟨rfl, hb⟩
      have q0 := cell_stays hb (Nat.le_refl _) HK0.out
      have HB2 := hid (HB0.out.trans (hb.mono HB0.out.size))
      clear hb HC k0 k1
      go_wp2_with fail
      refine (HW.out _).mono ?_
      rintro e w3 ⟨rfl, rfl⟩
      go_wp2
      go_ret
      exact ⟨rfl, HB2.out⟩
  · rw [if_pos h0]
    have h0b : (K.check n T == 0) = false := by simpa using h0
    generalize K.check n T = q at *
    clear h0
    go_enter Try.func71, Try.ntmps71
    go_wp2_with fail
    generalize w.alloc (.cells #[.int .i64 n, .slice a T.length c] 24) = w1 at *
    refine HC.out.mono ?_
    rintro e w2 ⟨rfl, hb⟩
    have HB2 := hid (HB0.out.trans (hb.mono HB0.out.size))
    clear hb HC k0 k1
    go_wp2
    go_ret
    exact ⟨rfl, HB2.out⟩

/-- The error of a list that is to ascend, behind a number. -/
def K.asc (n : Int) : Int → List Int → Int
  | _, [] => 0
  | p, x :: l => if K.out n x = true then 5 else if x ≤ p then 7 else K.asc n x l
/-- The number before index k. -/
def K.bef (l : List Int) (k : Nat) : Int := if k = 0 then -1 else l.getD (k - 1) 0

theorem K.asc_drop {n p : Int} {l : List Int} {k : Nat} (h : k < l.length) : K.asc n p (l.drop k) = if K.out n l[k] = true then 5 else if l[k] ≤ p then 7 else K.asc n (K.bef l (k + 1)) (l.drop (k + 1)) := by
  rw [List.drop_eq_getElem_cons h]
  have : K.bef l (k + 1) = l[k] := by unfold K.bef; rw [if_neg (by omega)]; simp [List.getD, List.getElem?_eq_getElem h]
  rw [this]; rfl
theorem K.bef_at {l : List Int} {k : Nat} (h : k < l.length) (h0 : ¬ k = 0) : K.bef l k = l[k - 1]'(by omega) := by
  unfold K.bef; rw [if_neg h0]; simp [List.getD, List.getElem?_eq_getElem (show k - 1 < l.length by omega)]

set_option maxHeartbeats 2000000 in
set_option maxRecDepth 100000 in
theorem checkAscending_any (n : Int) (pa : Option Addr) (pl pc : Nat) (a : Option Addr) (c : Nat) (l : List Int) (w : World) (hm : l.length ≤ maxLen) (hx : RdI w a l) :
    Calls Try.prog 72 #[K.pal n pa pl pc, .slice a l.length c] w fun e w' => e = .returned (.int .i64 (K.asc n (-1) l)) ∧ Below w.heap.size w w' := by
  have hb0 : Below w.heap.size w (w.alloc (.cells #[.int .i64 n, .slice pa pl pc] 24)) := (Below.refl _ _).alloc (Nat.le_refl _) _
  have k0 : (w.alloc (.cells #[.int .i64 n, .slice pa pl pc] 24)).cell? ⟨w.heap.size, 0, none⟩ = some (.int .i64 n) := by rw [World.cell?_alloc_at _ _ _ _ rfl]; rfl
  have HB0 := hid hb0
  have HX := hid (hx.stays hb0)
  clear hb0 hx
  unfold maxLen at hm
  unfold K.pal
  go_enter Try.func72, Try.ntmps72
  go_wp2
  generalize w.alloc (.cells #[.int .i64 n, .slice pa pl pc] 24) = w1 at *
  go_loop [9] (fun i => ∃ k : Nat, k ≤ l.length ∧ i = .int .i64 k ∧ K.asc n (-1) l = K.asc n (K.bef l k) (l.drop k)) (fun i => l.length - (intOf i).toNat)
  case atStart => exact ⟨0, Nat.zero_le _, rfl, rfl⟩
  case round =>
    obtain ⟨k, hk, rfl, hasc⟩ := hrel
    have HA := hid hasc
    clear hasc
    by_cases hlt : k < l.length
    · obtain ⟨b, off, rfl, hc⟩ := HX.out k hlt
      have HD := hid (K.asc_drop (n := n) (p := K.bef l k) hlt)
      have HW := hid (within_any l[k] n w1)
      generalize hxk : l[k] = x at *
      by_cases ho : K.out n x = true
      · have HR : Hid (K.asc n (-1) l = 5) := hid (by rw [HA.out, HD.out, if_pos ho])
        rw [ho] at HW
        clear ho hxk
        go_wp2_with fail
        refine HW.out.mono ?_
        rintro e w2 ⟨rfl, rfl⟩
        go_wp2
        go_ret
        exact ⟨ret_int HR.out.symm, HB0.out⟩
      · have ho' : K.out n x = false := by simpa using ho
        have hx0 : 0 ≤ x := by unfold K.out at ho; simp at ho; omega
        rw [ho'] at HW
        by_cases h0 : k = 0
        · subst h0
          rw [Nat.add_zero] at hc
          have HN : Hid (K.asc n (-1) l = K.asc n (K.bef l (0 + 1)) (l.drop (0 + 1))) := hid (by
            rw [HA.out, HD.out, if_neg ho, if_neg (by unfold K.bef; rw [if_pos rfl]; omega)])
          clear ho ho' hxk
          go_wp2_with fail
          refine HW.out.mono ?_
          rintro e w2 ⟨rfl, rfl⟩
          go_wp2
          go_round
          case rel => exact ⟨0 + 1, by omega, by go_num, HN.out⟩
          case measure => simp [intOf]; omega
        · have hbf := K.bef_at hlt h0
          obtain ⟨b', off', he, hcp⟩ := HX.out (k - 1) (by omega)
          simp only [Option.some.injEq, Addr.mk.injEq, and_true] at he
          obtain ⟨rfl, rfl⟩ := he
          generalize l[k - 1]'(by omega) = p at *
          have hk1 : (0 : Int) < (k : Int) := by omega
          have hsub : (k : Int) - 1 = ((k - 1 : Nat) : Int) := by omega
          have hsub2 : ((k - 1 : Nat) : Int) < (l.length : Int) := by omega
          by_cases hp : x ≤ p
          · have HR : Hid (K.asc n (-1) l = 7) := hid (by rw [HA.out, HD.out, if_neg ho, hbf, if_pos hp])
            clear ho ho' hxk hbf
            go_wp2_with fail
            refine HW.out.mono ?_
            rintro e w2 ⟨rfl, rfl⟩
            go_wp2
            go_ret
            exact ⟨ret_int HR.out.symm, HB0.out⟩
          · have HN : Hid (K.asc n (-1) l = K.asc n (K.bef l (k + 1)) (l.drop (k + 1))) := hid (by rw [HA.out, HD.out, if_neg ho, hbf, if_neg hp])
            clear ho ho' hxk hbf
            go_wp2_with fail
            refine HW.out.mono ?_
            rintro e w2 ⟨rfl, rfl⟩
            go_wp2
            go_round
            case rel => exact ⟨k + 1, by omega, by go_num, HN.out⟩
            case measure => simp [intOf]; omega
    · have hke : k = l.length := by omega
      subst hke
      have HR : Hid (K.asc n (-1) l = 0) := hid (by rw [HA.out, List.drop_length]; rfl)
      go_wp2
      go_ret
      exact ⟨ret_int HR.out.symm, HB0.out⟩
end Go.Proofs.Ytapndndbibgjoaa
