/- Package ink: the walks of checkStones and of the reference's sequenced. -/
import Derived.Test.YtapndndbibgjoaaIAsc
import Derived.Test.YtapndndbibgjoaaIRChk
namespace Go.Proofs.Ytapndndbibgjoaa
open Go.RowKit

/-- The error of a palette and of stones. -/
def K.sq (n : Int) (T : List (List Int)) (l : List Int) (m : Nat) : Int := if K.check n T ≠ 0 then K.check n T else if m < l.length then 2 else if l.any (K.out T.length) = true then 5 else 0

theorem K.sq_good {n : Int} {T : List (List Int)} {l : List Int} {m : Nat} (h : K.sq n T l m = 0) : K.check n T = 0 ∧ l.length ≤ m ∧ ∀ x ∈ l, 0 ≤ x ∧ x < T.length := by
  unfold K.sq at h
  split at h
  · contradiction
  rename_i h1
  split at h
  · omega
  rename_i h2
  split at h
  · omega
  rename_i h3
  refine ⟨by simpa using h1, by omega, fun x hx => ?_⟩
  have h4 : l.any (K.out T.length) = false := by simpa using h3
  rw [List.any_eq_false] at h4
  have := h4 x hx
  unfold K.out at this
  simp at this
  omega

set_option maxHeartbeats 2000000 in
set_option maxRecDepth 100000 in
theorem checkStones_any (n : Int) (a al : Option Addr) (c cl : Nat) (T : List (List Int)) (l : List Int) (m : Nat) (w : World) (hm : T.length ≤ maxLen) (hml : l.length ≤ maxLen) (hT : RdM w a T) (hl : RdI w al l) :
    Calls Try.prog 55 #[K.pal n a T.length c, .slice al l.length cl, .int .i64 m] w fun e w' => e = .returned (.int .i64 (K.sq n T l m)) ∧ Below w.heap.size w w' := by
  have hb0 : Below w.heap.size w (w.alloc (.cells #[.int .i64 n, .slice a T.length c] 24)) := (Below.refl _ _).alloc (Nat.le_refl _) _
  have k0 : (w.alloc (.cells #[.int .i64 n, .slice a T.length c] 24)).cell? ⟨w.heap.size, 0, none⟩ = some (.int .i64 n) := by rw [World.cell?_alloc_at _ _ _ _ rfl]; rfl
  have k1 : (w.alloc (.cells #[.int .i64 n, .slice a T.length c] 24)).cell? ⟨w.heap.size, 1, none⟩ = some (.slice a T.length c) := by rw [World.cell?_alloc_at _ _ _ _ rfl]; rfl
  have HB0 := hid hb0
  have HK1 := hid k1
  have HC := hid (inkCheck_any n a c T _ hm (hT.stays hb0))
  have HL := hid (hl.stays hb0)
  have HS : Hid (K.sq n T l m = if K.check n T ≠ 0 then K.check n T else if m < l.length then 2 else if l.any (K.out T.length) = true then 5 else 0) := hid rfl
  clear hb0 hT hl
  unfold maxLen at hml
  unfold K.pal at HC ⊢
  by_cases h0 : K.check n T = 0
  · rw [h0] at HC
    have hf : T.length ≤ 6 := (K.good_of h0).few
    by_cases h1 : m < l.length
    · have HR : Hid (K.sq n T l m = 2) := hid (by rw [HS.out, if_neg (by omega), if_pos h1])
      clear HS h0
      go_enter Try.func55, Try.ntmps55
      go_wp2_with fail
      generalize w.alloc (.cells #[.int .i64 n, .slice a T.length c] 24) = w1 at *
      refine HC.out.mono ?_
      rintro e w2 ⟨rfl, hb⟩
      have HB2 := hid (HB0.out.trans (hb.mono HB0.out.size))
      clear hb HC k0 k1
      go_wp2
      go_ret
      exact ⟨ret_int HR.out.symm, HB2.out⟩
    · have HR : Hid (K.sq n T l m = if l.any (K.out T.length) = true then 5 else 0) := hid (by rw [HS.out, if_neg (by omega), if_neg h1])
      clear HS h0
      go_enter Try.func55, Try.ntmps55
      go_wp2_with fail
      generalize w.alloc (.cells #[.int .i64 n, .slice a T.length c] 24) = w1 at *
      refine HC.out.mono ?_
      rintro e w2 ⟨rfl, hb⟩
      have HB2 := hid (HB0.out.trans (hb.mono HB0.out.size))
      have q1 := cell_stays hb (Nat.le_refl _) HK1.out
      have HL2 := hid (HL.out.stays hb)
      clear hb HC k0 k1
      go_wp2
      go_loop [21] (fun i => ∃ k : Nat, k ≤ l.length ∧ i = .int .i64 k ∧ l.any (K.out T.length) = (l.drop k).any (K.out T.length)) (fun i => l.length - (intOf i).toNat)
      case atStart => exact ⟨0, Nat.zero_le _, rfl, rfl⟩
      case round =>
        obtain ⟨k, hk, rfl, hany⟩ := hrel
        have HA := hid hany
        clear hany
        by_cases hlt : k < l.length
        · obtain ⟨b, off, rfl, hc⟩ := HL2.out k hlt
          have HD := hid (K.any_drop (p := K.out T.length) hlt)
          have HW := hid (within_any l[k] T.length w2)
          have hix : (0 : Int) ≤ (k : Int) ∧ (k : Int) < (l.length : Int) := by omega
          generalize l[k] = x at *
          cases ho : K.out T.length x with
          | true =>
            have HR2 : Hid (K.sq n T l m = 5) := hid (by rw [HR.out, HA.out, HD.out, ho]; rfl)
            rw [ho] at HW
            clear ho
            go_wp2_with fail
            refine HW.out.mono ?_
            rintro e w3 ⟨rfl, rfl⟩
            go_wp2
            go_ret
            exact ⟨ret_int HR2.out.symm, HB2.out⟩
          | false =>
            have HN : Hid (l.any (K.out T.length) = (l.drop (k + 1)).any (K.out T.length)) := hid (by rw [HA.out, HD.out, ho]; rfl)
            rw [ho] at HW
            clear ho
            go_wp2_with fail
            refine HW.out.mono ?_
            rintro e w3 ⟨rfl, rfl⟩
            go_wp2
            go_round
            case rel => exact ⟨k + 1, by omega, by go_num, HN.out⟩
            case measure => simp [intOf]; omega
        · have hke : k = l.length := by omega
          subst hke
          have HR2 : Hid (K.sq n T l m = 0) := hid (by rw [HR.out, HA.out, List.drop_length]; rfl)
          go_wp2
          go_ret
          exact ⟨ret_int HR2.out.symm, HB2.out⟩
  · have HR : Hid (K.sq n T l m = K.check n T) := hid (by rw [HS.out, if_pos h0])
    have h0b : (K.check n T == 0) = false := by simpa using h0
    rw [HR.out]
    clear HR HS
    generalize K.check n T = q at *
    clear h0
    go_enter Try.func55, Try.ntmps55
    go_wp2_with fail
    generalize w.alloc (.cells #[.int .i64 n, .slice a T.length c] 24) = w1 at *
    refine HC.out.mono ?_
    rintro e w2 ⟨rfl, hb⟩
    have HB2 := hid (HB0.out.trans (hb.mono HB0.out.size))
    clear hb HC k0 k1
    go_wp2
    go_ret
    exact ⟨rfl, HB2.out⟩

set_option maxHeartbeats 4000000 in
set_option maxRecDepth 100000 in
theorem sequenced_any (n : Int) (a al : Option Addr) (c cl : Nat) (T : List (List Int)) (l : List Int) (m : Nat) (w : World) (hm : T.length ≤ maxLen) (hml : l.length ≤ maxLen) (hT : RdM w a T) (hl : RdI w al l) :
    Calls Try.prog 59 #[K.pal n a T.length c, .slice al l.length cl, .int .i64 m] w fun e w' => e = .returned (.int .i64 (K.sq n T l m)) ∧ Below w.heap.size w w' := by
  have hb0 : Below w.heap.size w (w.alloc (.cells #[.int .i64 n, .slice a T.length c] 29)) := (Below.refl _ _).alloc (Nat.le_refl _) _
  have k0 : (w.alloc (.cells #[.int .i64 n, .slice a T.length c] 29)).cell? ⟨w.heap.size, 0, none⟩ = some (.int .i64 n) := by rw [World.cell?_alloc_at _ _ _ _ rfl]; rfl
  have k1 : (w.alloc (.cells #[.int .i64 n, .slice a T.length c] 29)).cell? ⟨w.heap.size, 1, none⟩ = some (.slice a T.length c) := by rw [World.cell?_alloc_at _ _ _ _ rfl]; rfl
  have HB0 := hid hb0
  have HK1 := hid k1
  have HC := hid (refCheck_any n a c T _ hm (hT.stays hb0))
  have HL := hid (hl.stays hb0)
  have HS : Hid (K.sq n T l m = if K.check n T ≠ 0 then K.check n T else if m < l.length then 2 else if l.any (K.out T.length) = true then 5 else 0) := hid rfl
  have HF : Hid (K.check n T = 0 → T.length ≤ 6) := hid (fun h => (K.good_of h).few)
  clear hb0 hT hl
  unfold maxLen at hml
  unfold K.pal at HC ⊢
  generalize K.check n T = q at *
  obtain ⟨v, hv⟩ : ∃ v : Int, v = if q ≠ 0 then q else if m < l.length then 2 else 0 := ⟨_, rfl⟩
  have HS2 : Hid (K.sq n T l m = if v ≠ 0 then v else if (l.drop 0).any (K.out T.length) = true then 5 else 0) := hid (by
    rw [HS.out, hv, List.drop_zero]
    by_cases h : q = 0
    · by_cases h2 : m < l.length
      · simp [h, h2]
      · simp [h, h2]
    · simp [h])
  have HF2 : Hid (v = 0 → T.length ≤ 6) := hid (fun h => HF.out (by
    rw [hv] at h
    split at h
    · assumption
    · rename_i h2; simpa using h2))
  have h3 : (q == 0) = false ∧ v = q ∨ q = 0 ∧ m < l.length ∧ v = 2 ∨ q = 0 ∧ ¬ m < l.length ∧ v = 0 := by
    by_cases h : q = 0
    · by_cases h2 : m < l.length
      · exact Or.inr (Or.inl ⟨h, by omega, by rw [hv, if_neg (by omega), if_pos h2]⟩)
      · exact Or.inr (Or.inr ⟨h, by omega, by rw [hv, if_neg (by omega), if_neg h2]⟩)
    · exact Or.inl ⟨by simpa using h, by rw [hv, if_pos h]⟩
  clear hv HS HF
  rcases h3 with ⟨hq, rfl⟩ | ⟨rfl, hq, rfl⟩ | ⟨rfl, hq, rfl⟩
  all_goals
    go_enter Try.func59, Try.ntmps59
    go_wp2_with fail
    generalize w.alloc (.cells #[.int .i64 n, .slice a T.length c] 29) = w1 at *
    refine HC.out.mono ?_
    rintro e w2 ⟨rfl, hb⟩
    have HB2 := hid (HB0.out.trans (hb.mono HB0.out.size))
    have HQ1 := hid (cell_stays hb (Nat.le_refl _) HK1.out)
    have HL2 := hid (HL.out.stays hb)
    clear hb HC k0 k1 HB0 HK1 HL
    go_wp2
    go_loopw [7, 8] (fun e i wr => ∃ (k : Nat) (ev : Int), k ≤ l.length ∧ i = .int .i64 k ∧ e = .int .i64 ev ∧ (ev = 0 → T.length ≤ 6) ∧ K.sq n T l m = (if ev ≠ 0 then ev else if (l.drop k).any (K.out T.length) = true then 5 else 0) ∧ Quiet w2 wr) (fun _ i _ => l.length - (intOf i).toNat)
    case atStart => exact ⟨0, _, Nat.zero_le _, rfl, rfl, fun h => (by first | exact HF2.out h | exact HF2.out trivial | exact absurd h (by decide)), HS2.out, Quiet.refl _⟩
    case round =>
      clear HF2 HS2
      obtain ⟨k, ev, hk, rfl, rfl, hf6, hs, hqt⟩ := hrel
      have HF := hid hf6
      have HS := hid hs
      have HQ := hid hqt
      clear hf6 hs hqt
      by_cases hlt : k < l.length
      · by_cases he : ev = 0
        · subst he
          have hT6 : T.length ≤ 6 := HF.out rfl
          have hT7 : (T.length : Int) ≤ 6 := by omega
          have hT8 : (0 : Int) ≤ (T.length : Int) := by omega
          obtain ⟨b, off, rfl, hc⟩ := HL2.out k hlt
          have qc := cell_stays HQ.out.below (Nat.le_refl _) hc
          have q1 := cell_stays HQ.out.below (Nat.le_refl _) HQ1.out
          have HD := hid (K.any_drop (p := K.out T.length) hlt)
          have hix : (0 : Int) ≤ (k : Int) ∧ (k : Int) < (l.length : Int) := by omega
          generalize l[k] = x at *
          have HI := hid (fun W => is_in x T.length W)
          clear hc
          cases ho : K.out T.length x with
          | true =>
            have HN : Hid (K.sq n T l m = (if (5 : Int) ≠ 0 then 5 else if (l.drop (k + 1)).any (K.out T.length) = true then 5 else 0)) := hid (by
              rw [HS.out, if_neg (by simp), HD.out, ho, Bool.true_or, if_pos rfl, if_pos (by decide)])
            rw [ho] at HI
            clear ho HS HD
            go_wp2
            go_quiet ((go_at_call 64; exact Calls.quiet_of_same (HI.out _)))
            go_wp2
            go_roundw
            case rel => exact ⟨k + 1, 5, by omega, by go_num, rfl, fun h => absurd h (by decide), HN.out, HQ.out.drewN _⟩
            case measure => simp [intOf]; omega
          | false =>
            have HN : Hid (K.sq n T l m = (if (0 : Int) ≠ 0 then 0 else if (l.drop (k + 1)).any (K.out T.length) = true then 5 else 0)) := hid (by
              rw [HS.out, HD.out, ho, Bool.false_or])
            rw [ho] at HI
            clear ho HS HD
            go_wp2
            go_quiet ((go_at_call 64; exact Calls.quiet_of_same (HI.out _)))
            go_wp2
            go_roundw
            case rel => exact ⟨k + 1, 0, by omega, by go_num, rfl, fun _ => hT6, HN.out, HQ.out.drewN _⟩
            case measure => simp [intOf]; omega
        · have heb : (ev == 0) = false := by simpa using he
          have HN : Hid (K.sq n T l m = (if ev ≠ 0 then ev else if (l.drop (k + 1)).any (K.out T.length) = true then 5 else 0)) := hid (by
            rw [HS.out, if_pos he, if_pos he])
          clear HS he
          go_wp2
          go_quiet (fail)
          go_wp2
          go_roundw
          case rel => exact ⟨k + 1, ev, by omega, by go_num, rfl, HF.out, HN.out, HQ.out.drewN _⟩
          case measure => simp [intOf]; omega
      · have hke : k = l.length := by omega
        subst hke
        have HR : Hid (K.sq n T l m = ev) := hid (by
          rw [HS.out, List.drop_length]
          by_cases h : ev = 0
          · simp [h]
          · simp [h])
        clear HS
        go_wp2
        go_ret
        exact ⟨ret_int HR.out.symm, HB2.out.trans (below_drewN (HQ.out.below.mono HB2.out.size) 0)⟩
end Go.Proofs.Ytapndndbibgjoaa
