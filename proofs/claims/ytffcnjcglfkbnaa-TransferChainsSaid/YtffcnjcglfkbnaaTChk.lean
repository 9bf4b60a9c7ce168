/- Package transfer: the walks of isImages and Check. -/
import Derived.Test.YtffcnjcglfkbnaaTWay
import Derived.Deep.RegionHeld3
namespace Go.Proofs.Ytffcnjcglfkbnaa
open Go.RowKit

/-- A number of images. -/
def K.img (x : Int) : Bool := decide (1 ≤ x) && decide (x ≤ 46)
/-- The first error of numbers behind p. -/
def K.asc : Int → List Int → Int
  | _, [] => 0
  | p, x :: l => if K.img x = false then 3 else if x ≤ p then 7 else K.asc x l
def K.allWay (l : List Int) : Nat → Nat → Bool
  | 0, _ => true
  | n + 1, i => (K.way (l.take i) (l.getD i 0)).isSome && K.allWay l n (i + 1)
def K.chk (l : List Int) : Int :=
  if l.length = 0 then 1 else if 20 < l.length then 2 else if K.asc 0 l ≠ 0 then K.asc 0 l else if l.getD 0 0 ≠ 1 then 13 else if K.allWay l (l.length - 1) 1 = true then 0 else 13
def K.bef (l : List Int) (k : Nat) : Int := if k = 0 then 0 else l.getD (k - 1) 0

theorem K.asc_drop {p : Int} {l : List Int} {k : Nat} (h : k < l.length) : K.asc p (l.drop k) = if K.img (l.getD k 0) = false then 3 else if l.getD k 0 ≤ p then 7 else K.asc (K.bef l (k + 1)) (l.drop (k + 1)) := by
  rw [List.drop_eq_getElem_cons h]
  have e : l.getD k 0 = l[k] := by simp [List.getD, h]
  have : K.bef l (k + 1) = l[k] := by unfold K.bef; rw [if_neg (by omega), Nat.add_sub_cancel, e]
  rw [this, e]; rfl
theorem K.asc_zero : ∀ {l : List Int} {p : Int}, K.asc p l = 0 → (∀ x ∈ l, K.img x = true ∧ p < x) ∧ l.Pairwise (· < ·)
  | [], _, _ => ⟨fun _ h => absurd h List.not_mem_nil, List.Pairwise.nil⟩
  | x :: l, p, h => by
    have h : (if K.img x = false then (3 : Int) else if x ≤ p then 7 else K.asc x l) = 0 := h
    split at h
    · omega
    rename_i h1
    split at h
    · omega
    rename_i h2
    obtain ⟨i1, i2⟩ := K.asc_zero h
    have hx : K.img x = true := by simpa using h1
    refine ⟨fun y hy => ?_, List.Pairwise.cons (fun y hy => (i1 y hy).2) i2⟩
    rcases List.mem_cons.1 hy with rfl | hy
    · exact ⟨hx, by omega⟩
    · have := i1 y hy
      exact ⟨this.1, by omega⟩
theorem K.img_iff {x : Int} (h : K.img x = true) : 1 ≤ x ∧ x ≤ 46 := by unfold K.img at h; simpa using h

/-- A new array of two numbers, behind what leaves it alone. -/
theorem newCells {wr W w2 : World} (hW : W = (wr.alloc (.cells #[.int .i64 0, .int .i64 0] 58)).drew) (hb : Below W.heap.size W w2) :
    w2.cell? ⟨wr.heap.size, 0, none⟩ = some (.int .i64 0) ∧ w2.cell? ⟨wr.heap.size, 1, none⟩ = some (.int .i64 0) ∧ w2.frozen? ⟨wr.heap.size, 0, none⟩ = false ∧ w2.frozen? ⟨wr.heap.size, 1, none⟩ = false := by
  subst hW
  have hlt : wr.heap.size < ((wr.alloc (.cells #[.int .i64 0, .int .i64 0] 58)).drew).heap.size := by simp
  refine ⟨(hb.cell (p := ⟨wr.heap.size, 0, none⟩) hlt).trans ?_, (hb.cell (p := ⟨wr.heap.size, 1, none⟩) hlt).trans ?_, (hb.frozen (p := ⟨wr.heap.size, 0, none⟩) hlt).trans ?_, (hb.frozen (p := ⟨wr.heap.size, 1, none⟩) hlt).trans ?_⟩
  · show (wr.alloc (.cells #[.int .i64 0, .int .i64 0] 58)).cell? _ = _
    rw [World.cell?_alloc_at _ _ _ _ rfl]; rfl
  · show (wr.alloc (.cells #[.int .i64 0, .int .i64 0] 58)).cell? _ = _
    rw [World.cell?_alloc_at _ _ _ _ rfl]; rfl
  · simp
  · simp

set_option maxHeartbeats 1000000 in
theorem isImages_any (x : Int) (w : World) : Calls Try.prog 51 #[.int .i64 x] w fun e w' => e = .returned (.bool (K.img x)) ∧ w' = w := by
  by_cases h1 : 1 ≤ x
  · by_cases h2 : x ≤ 46
    · have h : K.img x = true := by unfold K.img; simp [h1, h2]
      rw [h]
      go_enter Try.func51, Try.ntmps51
      go_wp2
      go_ret
      exact ⟨ret_bool (by simp), rfl⟩
    · have h : K.img x = false := by unfold K.img; simp [h1, h2]
      rw [h]
      go_enter Try.func51, Try.ntmps51
      go_wp2
      go_ret
      exact ⟨ret_bool (by simp), rfl⟩
  · have h : K.img x = false := by unfold K.img; simp [h1]
    rw [h]
    go_enter Try.func51, Try.ntmps51
    go_wp2
    go_ret
    exact ⟨rfl, rfl⟩

set_option maxHeartbeats 4000000 in
set_option maxRecDepth 100000 in
theorem check_any (a : Option Addr) (c : Nat) (l : List Int) (w : World) (hc : l.length ≤ c) (hcm : c ≤ maxLen) (hx : RdI w a l) :
    Calls Try.prog 21 #[.slice a l.length c] w fun e w' => e = .returned (.int .i64 (K.chk l)) ∧ Below w.heap.size w w' := by
  have hcm' := hcm
  unfold maxLen at hcm'
  have hrefl := Below.refl w.heap.size w
  have HB := hid hrefl
  by_cases h0 : l.length = 0
  · have HK : Hid (K.chk l = 1) := hid (by unfold K.chk; rw [if_pos h0])
    clear hrefl hx
    rw [HK.out]
    generalize l.length = n at *
    subst h0
    go_enter Try.func21, Try.ntmps21
    go_wp2
    go_ret
    exact ⟨rfl, HB.out⟩
  by_cases h20 : 20 < l.length
  · have HK : Hid (K.chk l = 2) := hid (by unfold K.chk; rw [if_neg h0, if_pos h20])
    clear hrefl hx
    rw [HK.out]
    have h0' : ((l.length : Int) == 0) = false := by rw [beq_eq_false_iff_ne]; omega
    go_enter Try.func21, Try.ntmps21
    go_wp2
    go_ret
    exact ⟨rfl, HB.out⟩
  obtain ⟨b, off, ha, _⟩ := hx 0 (by omega)
  subst ha
  have hx' : ∀ k, k < l.length → w.cell? ⟨b, off + k, none⟩ = some (.int .i64 (l.getD k 0)) := fun k hk => by
    obtain ⟨b', off', he, hcell⟩ := hx k hk
    simp only [Option.some.injEq, Addr.mk.injEq, and_true] at he
    obtain ⟨rfl, rfl⟩ := he
    rw [hcell]; simp [List.getD, hk]
  have HX := hid hx'
  have HC0 : Hid (K.chk l = if K.asc 0 l ≠ 0 then K.asc 0 l else if l.getD 0 0 ≠ 1 then 13 else if K.allWay l (l.length - 1) 1 = true then 0 else 13) := hid (by unfold K.chk; rw [if_neg h0, if_neg h20])
  clear hrefl hx hx'
  have h0' : ((l.length : Int) == 0) = false := by rw [beq_eq_false_iff_ne]; omega
  go_enter Try.func21, Try.ntmps21
  go_wp2
  go_loop [18] (fun i => ∃ k : Nat, k ≤ l.length ∧ i = .int .i64 k ∧ K.asc 0 l = K.asc (K.bef l k) (l.drop k)) (fun i => l.length - (intOf i).toNat)
  case atStart => exact ⟨0, Nat.zero_le _, rfl, rfl⟩
  case round =>
    obtain ⟨k, hk, rfl, hasc⟩ := hrel
    have HA := hid hasc
    clear hasc
    by_cases hlt : k < l.length
    · have hck := HX.out k hlt
      have HD := hid (K.asc_drop (p := K.bef l k) hlt)
      have HI := hid (isImages_any (l.getD k 0) w)
      have hix : (0 : Int) ≤ (k : Int) ∧ (k : Int) < (l.length : Int) := by omega
      generalize hxk : l.getD k 0 = x at *
      have HXK := hid hxk
      clear hxk
      cases hi : K.img x with
      | false =>
        have HR : Hid (K.chk l = 3) := hid (by rw [HC0.out, HA.out, HD.out, if_pos hi]; simp)
        rw [hi] at HI
        clear hi
        go_wp2_with fail
        refine HI.out.mono ?_
        rintro e w2 ⟨rfl, rfl⟩
        go_wp2
        go_ret
        rw [HR.out]
        exact ⟨rfl, HB.out⟩
      | true =>
        have hx1 := K.img_iff hi
        rw [hi] at HI
        by_cases hk0 : k = 0
        · subst hk0
          rw [Nat.add_zero] at hck
          have HN : Hid (K.asc 0 l = K.asc (K.bef l (0 + 1)) (l.drop (0 + 1))) := hid (by rw [HA.out, HD.out, if_neg (by rw [hi]; simp), if_neg (by unfold K.bef; rw [if_pos rfl]; omega)])
          clear hi
          go_wp2_with fail
          refine HI.out.mono ?_
          rintro e w2 ⟨rfl, rfl⟩
          go_wp2
          go_round
          case rel => exact ⟨0 + 1, by omega, by go_num, HN.out⟩
          case measure => simp [intOf]; omega
        · have hcp := HX.out (k - 1) (by omega)
          have hbf : K.bef l k = l.getD (k - 1) 0 := by unfold K.bef; rw [if_neg hk0]
          generalize l.getD (k - 1) 0 = p at *
          have hk1 : (0 : Int) < (k : Int) := by omega
          have hsub : (k : Int) - 1 = ((k - 1 : Nat) : Int) := by omega
          have hsub2 : ((k - 1 : Nat) : Int) < (l.length : Int) := by omega
          by_cases hp : x ≤ p
          · have HR : Hid (K.chk l = 7) := hid (by
              have h7 : K.asc 0 l = 7 := by rw [HA.out, HD.out, if_neg (by rw [hi]; simp), hbf, if_pos hp]
              rw [HC0.out, h7]; simp)
            clear hi hbf
            go_wp2_with fail
            refine HI.out.mono ?_
            rintro e w2 ⟨rfl, rfl⟩
            go_wp2
            go_ret
            rw [HR.out]
            exact ⟨rfl, HB.out⟩
          · have HN : Hid (K.asc 0 l = K.asc (K.bef l (k + 1)) (l.drop (k + 1))) := hid (by rw [HA.out, HD.out, if_neg (by rw [hi]; simp), hbf, if_neg hp])
            clear hi hbf
            go_wp2_with fail
            refine HI.out.mono ?_
            rintro e w2 ⟨rfl, rfl⟩
            go_wp2
            go_round
            case rel => exact ⟨k + 1, by omega, by go_num, HN.out⟩
            case measure => simp [intOf]; omega
    · have hke : k = l.length := by omega
      subst hke
      have HZ : Hid (K.asc 0 l = 0) := hid (by rw [HA.out, List.drop_length]; rfl)
      have HC1 : Hid (K.chk l = if l.getD 0 0 ≠ 1 then 13 else if K.allWay l (l.length - 1) 1 = true then 0 else 13) := hid (by rw [HC0.out, HZ.out]; simp)
      obtain ⟨hz1, hz2⟩ := K.asc_zero HZ.out
      have HZ1 := hid hz1
      have HZ2 := hid hz2
      clear hz1 hz2 HA HC0
      have hc0 := HX.out 0 (by omega)
      rw [Nat.add_zero] at hc0
      by_cases h1 : l.getD 0 0 = 1
      · have HC2 : Hid (K.chk l = if K.allWay l (l.length - 1) 1 = true then 0 else 13) := hid (by rw [HC1.out, if_neg (by simp; exact h1)])
        rw [h1] at hc0
        clear h1 HC1
        go_wp2
        go_loopw [5] (fun s wr => ∃ i : Nat, 1 ≤ i ∧ i ≤ l.length ∧ s = .int .i64 i ∧ K.allWay l (l.length - 1) 1 = K.allWay l (l.length - i) i ∧ Below w.heap.size w wr) (fun s _ => l.length - (intOf s).toNat)
        case atStart => exact ⟨1, Nat.le_refl _, by omega, rfl, rfl, HB.out⟩
        case round =>
          obtain ⟨i, hi1, hi2, rfl, hw, hb⟩ := hrel
          have HW := hid hw
          have HBR := hid hb
          clear hw hc0
          by_cases hlt : i < l.length
          · have hci := cell_stays hb (Nat.le_refl _) (HX.out i hlt)
            have HWN : Hid (K.allWay l (l.length - 1) 1 = ((K.way (l.take i) (l.getD i 0)).isSome && K.allWay l (l.length - (i + 1)) (i + 1))) := hid (by
              rw [HW.out, show l.length - i = (l.length - (i + 1)) + 1 by omega]; rfl)
            have hmem : ∀ k, k < l.length → K.img (l.getD k 0) = true := fun k hk => by
              have e : l.getD k 0 = l[k] := by simp [List.getD, hk]
              rw [e]; exact (HZ1.out _ (List.getElem_mem hk)).1
            have htl : (l.take i).length = i := by rw [List.length_take]; omega
            have hget : ∀ k, k < i → (l.take i).getD k 0 = l.getD k 0 := fun k hk => by simp [List.getD, hk]
            have HWY := hid (fun W (hW : Hid (Below wr.heap.size wr W)) => by
              have h := wayOf_any b off c (l.take i) (l.getD i 0) W (by omega) (by omega) hcm (by have := K.img_iff (hmem i hlt); omega) (fun k hk => by
                rw [hget k (by omega)]
                have := K.img_iff (hmem k (by omega)); omega) (HZ2.out.sublist (List.take_sublist _ _)) (fun k hk => by
                rw [hget k (by omega)]
                exact cell_stays (hb.trans (hW.out.mono hb.size)) (Nat.le_refl _) (HX.out k (by omega)))
              rw [htl] at h
              exact h.mono (R' := fun e w' => e = .returned (.tuple #[K.pairOf (K.way (l.take i) (l.getD i 0)) 0, .bool (K.way (l.take i) (l.getD i 0)).isSome]) ∧ Hid (Below wr.heap.size wr w') ∧ Hid (Below W.heap.size W w')) (fun e w' hq => ⟨hq.1, hid (hW.out.trans (hq.2.mono hW.out.size)), hid hq.2⟩))
            have h1 : (0 : Int) ≤ (i : Int) ∧ (i : Int) < (l.length : Int) := by omega
            have h2 : (0 : Int) ≤ (i : Int) ∧ (i : Int) ≤ (c : Int) := by omega
            have h3 : ¬ c = 0 := by omega
            clear hmem htl hget
            generalize hx0 : l.getD i 0 = x at *
            clear hx0
            have HCL := hid (fun W (h : Below wr.heap.size wr W) => show W.cell? ⟨b, off + i, none⟩ = some (.int .i64 x) from cell_stays h (Nat.le_refl _) hci)
            clear hb hci
            have hd : Hid (Below wr.heap.size wr wr.drew) := hid (Below.refl _ _).drew
            have q0 := HCL.out _ hd.out
            cases hbo : K.way (l.take i) x with
            | some pq =>
              obtain ⟨p, q⟩ := pq
              rw [hbo] at HWY HWN
              unfold K.pairOf at HWY
              have HN : Hid (K.allWay l (l.length - 1) 1 = K.allWay l (l.length - (i + 1)) (i + 1)) := hid (by rw [HWN.out]; simp)
              clear hbo
              go_wp2
              go_region_held3 (fun W => W.cell? ⟨b, off + i, none⟩ = some (.int .i64 x)) (first | exact HCL.out _ (Hid.out (by assumption)) | exact HCL.out _ (hb2.out.alloc hb2.out.size _) | exact HCL.out _ ((hb2.out.setCell (p := ⟨wr.heap.size, 0, none⟩) (Nat.le_refl _) _).setCell (p := ⟨wr.heap.size, 1, none⟩) (Nat.le_refl _) _) | exact HCL.out _ ((Below.refl _ _).alloc (Nat.le_refl _) _).drew | exact HCL.out _ ((Below.refl _ _).drew.alloc (Nat.le_refl _) _) | go_keep) (first | (go_at_call 52; (with_reducible refine (HWY.out _ (hid ((Below.refl _ _).alloc (Nat.le_refl _) _).drew)).mono ?_); rintro e w2 ⟨rfl, hb2, hb3⟩; obtain ⟨g0, g1, g2, g3⟩ := newCells rfl hb3.out) | (go_at_call 52; (with_reducible refine (HWY.out _ (by assumption)).mono ?_); rintro e w2 ⟨rfl, hb2, hb3⟩))
              all_goals (
                clear q0 HWY hd HCL
                go_wp2
                go_roundw
                case rel => exact ⟨i + 1, by omega, by omega, by go_num, HN.out, by first | exact HBR.out.trans (hb2.out.mono HBR.out.size) | exact HBR.out.trans ((hb2.out.alloc hb2.out.size _).mono HBR.out.size) | exact HBR.out.trans (((hb2.out.setCell (p := ⟨wr.heap.size, 0, none⟩) (Nat.le_refl _) _).setCell (p := ⟨wr.heap.size, 1, none⟩) (Nat.le_refl _) _).mono HBR.out.size)⟩
                case measure => simp [intOf]; omega)
            | none =>
              rw [hbo] at HWY HWN
              unfold K.pairOf at HWY
              have HR : Hid (K.chk l = 13) := hid (by rw [HC2.out, HWN.out]; simp)
              clear hbo
              go_wp2
              go_region_held3 (fun W => W.cell? ⟨b, off + i, none⟩ = some (.int .i64 x)) (first | exact HCL.out _ (Hid.out (by assumption)) | exact HCL.out _ (hb2.out.alloc hb2.out.size _) | exact HCL.out _ ((hb2.out.setCell (p := ⟨wr.heap.size, 0, none⟩) (Nat.le_refl _) _).setCell (p := ⟨wr.heap.size, 1, none⟩) (Nat.le_refl _) _) | exact HCL.out _ ((Below.refl _ _).alloc (Nat.le_refl _) _).drew | exact HCL.out _ ((Below.refl _ _).drew.alloc (Nat.le_refl _) _) | go_keep) (first | (go_at_call 52; (with_reducible refine (HWY.out _ (hid ((Below.refl _ _).alloc (Nat.le_refl _) _).drew)).mono ?_); rintro e w2 ⟨rfl, hb2, hb3⟩; obtain ⟨g0, g1, g2, g3⟩ := newCells rfl hb3.out) | (go_at_call 52; (with_reducible refine (HWY.out _ (by assumption)).mono ?_); rintro e w2 ⟨rfl, hb2, hb3⟩))
              all_goals (
                clear q0 HWY hd HCL
                go_wp2
                go_ret
                rw [HR.out]
                exact ⟨rfl, by first | exact HBR.out.trans (hb2.out.mono HBR.out.size) | exact HBR.out.trans ((hb2.out.alloc hb2.out.size _).mono HBR.out.size) | exact HBR.out.trans (((hb2.out.setCell (p := ⟨wr.heap.size, 0, none⟩) (Nat.le_refl _) _).setCell (p := ⟨wr.heap.size, 1, none⟩) (Nat.le_refl _) _).mono HBR.out.size)⟩)
          · have hie : i = l.length := by omega
            subst hie
            have HR : Hid (K.chk l = 0) := hid (by rw [HC2.out, HW.out, Nat.sub_self]; rfl)
            clear hb
            go_wp2
            go_ret
            rw [HR.out]
            exact ⟨rfl, HBR.out⟩
      · have HR : Hid (K.chk l = 13) := hid (by rw [HC1.out, if_pos h1])
        have hne : (l.getD 0 0 != 1) = true := by rw [bne_iff_ne]; exact h1
        generalize l.getD 0 0 = z at *
        clear h1
        go_wp2
        go_ret
        rw [HR.out]
        exact ⟨rfl, HB.out⟩
end Go.Proofs.Ytffcnjcglfkbnaa
