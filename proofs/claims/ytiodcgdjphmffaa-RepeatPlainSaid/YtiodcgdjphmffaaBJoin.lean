/- Package repeat: joined, Join. -/
import Derived.Test.YtiodcgdjphmffaaBGrow
import Derived.StillTailTactics
namespace Go.Proofs.Ytiodcgdjphmffaa
open Go.Shelf Go.RowKit

theorem still_of_quiet {P : Program} {ops : Array Oper} {w : World} {Q : Act → Prop} : ∀ (l : List Oper) (a : Act), wpQuiet P ops (fun x => x = w) Q l a → wpStill P ops w Q l a
  | [], _, h => h
  | o :: l, a, h => by
    unfold wpQuiet at h
    unfold wpStill
    split at h
    · rename_i hw
      rw [if_pos hw]
      obtain ⟨v, h1, h2⟩ := h
      have h3 := h1 w rfl
      have ih := still_of_quiet l _ h2
      unfold Oper.quietAt at h3
      unfold Oper.still
      generalize (execOp a.eval o).run P w = r at h3 ⊢
      unfold Oper.quietUpon at h3
      unfold Oper.stillUpon
      split at h3
      · obtain ⟨rfl, rfl⟩ := h3; exact ⟨rfl, ih⟩
      · obtain ⟨rfl, rfl⟩ := h3; exact ⟨rfl, ih⟩
      · obtain ⟨rfl, h4⟩ := h3; exact ⟨rfl, v, h4, ih⟩
      · cases h3
    · rename_i hw
      rw [if_neg hw]
      exact still_of_quiet l _ h

theorem RdS.take {w : World} {b off : Nat} {xs : List ByteArray} (h : RdS w (some ⟨b, off, none⟩) xs) (k : Nat) : RdS w (some ⟨b, off, none⟩) (xs.take k) := fun j hj => by
  have hj' : j < k ∧ j < xs.length := by simpa [List.length_take, Nat.lt_min] using hj
  obtain ⟨b', o', e, q⟩ := h j hj'.2
  exact ⟨b', o', e, by rw [q, List.getElem_take]⟩
theorem RdS.drop {w : World} {b off : Nat} {xs : List ByteArray} (h : RdS w (some ⟨b, off, none⟩) xs) (k : Nat) : RdS w (some ⟨b, off + k, none⟩) (xs.drop k) := fun j hj => by
  have hj' : k + j < xs.length := by rw [List.length_drop] at hj; omega
  obtain ⟨b', o', e, q⟩ := h (k + j) hj'
  simp only [Option.some.injEq, Addr.mk.injEq, and_true] at e
  obtain ⟨rfl, rfl⟩ := e
  exact ⟨b, off + k, rfl, by rw [Nat.add_assoc, q, List.getElem_drop]⟩

theorem RowS.rd2 {w : World} {lo : Nat} {v : Value} {xs : List ByteArray} (h : RowS w lo v xs) : ∃ a cap, v = .slice a xs.length cap ∧ RdS w a xs ∧ xs.length ≤ cap ∧ cap ≤ maxLen := by
  obtain ⟨a, cap, rfl, hr⟩ := h.rd
  refine ⟨a, cap, rfl, hr, ?_⟩
  rcases h.2 with ⟨e, h0⟩ | ⟨g, cap', cur, e, _, _, h2, h3, _⟩
  · simp only [Value.slice.injEq] at e
    obtain ⟨_, _, rfl⟩ := e
    exact ⟨by omega, by unfold maxLen; omega⟩
  · simp only [Value.slice.injEq] at e
    obtain ⟨_, _, rfl⟩ := e
    exact ⟨h2, h3⟩
/-- The first row, when so many borders have been tried. -/
def B.jnTo (f : ByteArray → List ByteArray → ByteArray) (r : ByteArray) (L : List ByteArray) : Nat → ByteArray
  | 0 => r
  | k + 1 => if k = 0 ∨ B.cmpR (f (B.grow r (L.getD k ⟨#[]⟩)) (L.take k ++ L.drop (k + 1))) (B.jnTo f r L k) < 0 then f (B.grow r (L.getD k ⟨#[]⟩)) (L.take k ++ L.drop (k + 1)) else B.jnTo f r L k
def B.jn : Nat → ByteArray → List ByteArray → ByteArray
  | 0 => fun r _ => r
  | m + 1 => fun r L => B.jnTo (B.jn m) r L L.length

set_option maxHeartbeats 4000000 in
set_option maxRecDepth 100000 in
theorem joined_step (m : Nat) (ih : ∀ (r : ByteArray) (L : List ByteArray) (a : Option Addr) (c : Nat) (w : World), L.length = m → L.length ≤ c → c ≤ maxLen → r.size + 24 * m ≤ 1000 → (∀ x ∈ L, x.size ≤ 24) → MaxL w → RdS w a L →
      Calls Try.prog 63 #[.string r, .slice a L.length c] w fun e w' => e = .returned (.string (B.jn m r L)) ∧ Below w.heap.size w w')
    (r : ByteArray) (L : List ByteArray) (a : Option Addr) (c : Nat) (w : World) (hL : L.length = m + 1) (hc : L.length ≤ c) (hc2 : c ≤ maxLen) (hz : r.size + 24 * (m + 1) ≤ 1000) (hx : ∀ x ∈ L, x.size ≤ 24) (hm : MaxL w) (hr : RdS w a L) :
    Calls Try.prog 63 #[.string r, .slice a L.length c] w fun e w' => e = .returned (.string (B.jn (m + 1) r L)) ∧ Below w.heap.size w w' := by
  unfold maxLen at hc2
  have HV : Hid (B.jn (m + 1) r L = B.jnTo (B.jn m) r L L.length) := hid rfl
  have HIH := hid ih
  have HR := hid hr
  have HM := hid hm
  have HX := hid hx
  have HJ0 : Hid (B.jnTo (B.jn m) r L 0 = r) := hid rfl
  have HJS : Hid (∀ k (h : k < L.length), B.jnTo (B.jn m) r L (k + 1) = if k = 0 ∨ B.cmpR (B.jn m (B.grow r L[k]) (L.take k ++ L.drop (k + 1))) (B.jnTo (B.jn m) r L k) < 0 then B.jn m (B.grow r L[k]) (L.take k ++ L.drop (k + 1)) else B.jnTo (B.jn m) r L k) := hid (fun k h => by
    have e : L.getD k ⟨#[]⟩ = L[k] := by simp only [List.getD, List.getElem?_eq_getElem h, Option.getD_some]
    rw [B.jnTo, e])
  rw [hL] at hc HV ⊢
  have HLN := hid hL
  clear ih hr hm hx hL
  go_enter Try.func63, Try.ntmps63
  go_wp2
  go_loopw [5, 13] (fun x y wr => ∃ k : Nat, k ≤ m + 1 ∧ y = .int .i64 k ∧ x = .string (B.jnTo (B.jn m) r L k) ∧ Below w.heap.size w wr) (fun _ y _ => m + 1 - (intOf y).toNat)
  case atStart => exact ⟨0, Nat.zero_le _, rfl, rfl, Below.refl _ _⟩
  case round =>
    obtain ⟨k, hk, rfl, rfl, hb⟩ := hrel
    have HB := hid hb
    clear hb
    by_cases hlt1 : k < m + 1
    · have hrd := HR.out.stays HB.out
      have hL := HLN.out
      have hlt : k < L.length := by omega
      obtain ⟨b, off, rfl, hcl⟩ := hrd k hlt
      have HRD := hid hrd
      have HS1 := hid (HJS.out k hlt)
      have hx1 := HX.out L[k] (List.getElem_mem hlt)
      have hl1 : (L.take k).length = k := by rw [List.length_take]; omega
      have hl2 : (L.drop (k + 1)).length = m - k := by rw [List.length_drop]; omega
      have hl3 : (L.take k ++ L.drop (k + 1)).length = m := by rw [List.length_append, hl1, hl2]; omega
      have HXO : Hid (∀ x ∈ L.take k ++ L.drop (k + 1), x.size ≤ 24) := hid (fun x hx => by
        rcases List.mem_append.1 hx with h | h
        · exact HX.out x (List.mem_of_mem_take h)
        · exact HX.out x (List.mem_of_mem_drop h))
      have HCC := hid (fun (W : World) (P : Nat) (hW : Below wr.heap.size wr W) (c1 o2 c2 : Nat) (ho : o2 = off + (k + 1) ∨ m = k) hp1 hp2 => concatS_any P 0 b off c1 b o2 c2 2 (L.take k) (L.drop (k + 1)) W (by omega) (by omega) hp1 hp2 ((HRD.out.stays hW).take k) (by
        rcases ho with rfl | ho
        · exact (HRD.out.stays hW).drop (k + 1)
        · intro i hi; omega))
      rw [hl1, hl2] at HCC
      have HL3 := hid hl3
      have hgs := B.grow_size r L[k]
      have HGR := hid (fun W hW => grown_any r L[k] W hW (by omega) (by omega))
      have h1 : (0 : Int) ≤ (k : Int) ∧ (k : Int) ≤ (c : Int) := by omega
      have h2 : IntKind.i64.wrap ((k : Int) + 1) = ((k + 1 : Nat) : Int) := by rw [IntWalk.i64_in _ (by omega)]; rfl
      have h3 : (0 : Int) ≤ ((k + 1 : Nat) : Int) ∧ ((k + 1 : Nat) : Int) ≤ (m : Int) + 1 ∧ (m : Int) + 1 ≤ (c : Int) := by omega
      have h4 : ¬ c = 0 := by omega
      have hix : (0 : Int) ≤ (k : Int) ∧ (k : Int) < (m : Int) + 1 := by omega
      generalize L.take k ++ L.drop (k + 1) = O at *
      generalize L[k] = s at *
      clear hl1 hl2 hl3 hrd hL hlt
      go_wp2
      refine wp_region_still_tail 7 (by kernel_rfl) (by kernel_rfl) ?_
      simp only [List.take_succ_cons, List.take_zero, List.drop_succ_cons, List.drop_zero]
      refine still_of_quiet _ _ ?_
      repeat go_big_quiet_step (fail)
      refine wpQuiet_nil ?_
      change wpList _ _ _ _ _ wr.drew
      have HB4 : Hid (Below wr.heap.size wr wr.drew) := hid (Below.refl _ _).drew
      generalize wr.drew = W5 at *
      go_wp2_with fail
      all_goals try (rename_i h; subst h)
      all_goals
        first
          | refine (HCC.out _ W5.heap.size (HB4.out.alloc HB4.out.size _) _ (off + (k + 1)) _ (.inl rfl) (by rw [World.cell?_alloc_at _ _ _ _ rfl]; rfl) (by rw [World.cell?_alloc_at _ _ _ _ rfl]; rfl)).mono ?_
          | refine (HCC.out _ W5.heap.size (HB4.out.alloc HB4.out.size _) _ off _ (.inr (by omega)) (by rw [World.cell?_alloc_at _ _ _ _ rfl]; rfl) (by rw [World.cell?_alloc_at _ _ _ _ rfl]; rfl)).mono ?_
        rintro e w6 ⟨v6, rfl, hrow6, hb6⟩
        have HB6 : Hid (Below w.heap.size w w6) := hid (HB.out.trans (((HB4.out.alloc HB4.out.size _).trans (hb6.mono (HB4.out.alloc HB4.out.size _).size)).mono HB.out.size))
        obtain ⟨a6, c6, rfl, hr6, hl6, hm6⟩ := hrow6.rd2
        have HR6 := hid hr6
        have HL6 := hid hl6
        have HC6 := hid hm6
        rw [HL3.out]
        clear hrow6 hb6 hr6 hl6 hm6 HCC HB4
        have HG6 := hid (HGR.out w6 (HM.out.stays HB6.out))
        have HI6 := hid (fun w7 (hb7 : Below w6.heap.size w6 w7) => HIH.out (B.grow r s) O a6 c6 w7 HL3.out HL6.out HC6.out (by omega) HXO.out (HM.out.stays (HB6.out.trans (hb7.mono HB6.out.size))) (HR6.out.stays hb7))
        rw [HL3.out] at HI6
        have HCR := hid (fun w7 => compareRows_any (B.jn m (B.grow r s) O) (B.jnTo (B.jn m) r L k) w7)
        generalize B.grow r s = gr at *
        generalize B.jn m gr O = o at *
        by_cases hk0 : k = 0
        · have HS2 : Hid (B.jnTo (B.jn m) r L (k + 1) = o) := hid (by rw [HS1.out, if_pos (Or.inl hk0)])
          have hk1 : ((k : Int) == 0) = true := by simp [hk0]
          clear HS1 hk0 h1 h2 h3 h4
          go_wp2_with (first | (go_at_call 72; refine HG6.out.mono ?_; rintro e w7 ⟨rfl, hb7⟩; have HB7 := hid hb7; clear hb7) | (go_at_call 63; refine (HI6.out w7 HB7.out).mono ?_; rintro e w8 ⟨rfl, hb8⟩; have HB8 := hid hb8; clear hb8))
          go_roundw
          case rel => exact ⟨k + 1, by omega, by go_num, by rw [HS2.out], HB6.out.trans ((HB7.out.trans (HB8.out.mono HB7.out.size)).mono HB6.out.size)⟩
          case measure => simp [intOf]; omega
        · have hk1 : ((k : Int) == 0) = false := by rw [beq_eq_false_iff_ne]; omega
          generalize B.jnTo (B.jn m) r L k = best at *
          by_cases hlt0 : B.cmpR o best < 0
          · have HS2 : Hid (B.jnTo (B.jn m) r L (k + 1) = o) := hid (by rw [HS1.out, if_pos (Or.inr hlt0)])
            clear HS1 hk0 h1 h2 h3 h4
            generalize B.cmpR o best = cv at *
            go_wp2_with (first | (go_at_call 72; refine HG6.out.mono ?_; rintro e w7 ⟨rfl, hb7⟩; have HB7 := hid hb7; clear hb7) | (go_at_call 63; refine (HI6.out w7 HB7.out).mono ?_; rintro e w8 ⟨rfl, hb8⟩; have HB8 := hid hb8; clear hb8) | (go_at_call 73; refine (HCR.out w8).mono ?_; rintro e w9 ⟨rfl, hb9⟩; have HB9 := hid hb9; clear hb9))
            go_roundw
            case rel => exact ⟨k + 1, by omega, by go_num, by rw [HS2.out], by
              have e8 := HB7.out.trans (HB8.out.mono HB7.out.size)
              exact HB6.out.trans ((e8.trans (HB9.out.mono e8.size)).mono HB6.out.size)⟩
            case measure => simp [intOf]; omega
          · have HS2 : Hid (B.jnTo (B.jn m) r L (k + 1) = best) := hid (by rw [HS1.out, if_neg (by rintro (h | h); exact hk0 h; exact hlt0 h)])
            clear HS1 hk0 h1 h2 h3 h4
            generalize B.cmpR o best = cv at *
            go_wp2_with (first | (go_at_call 72; refine HG6.out.mono ?_; rintro e w7 ⟨rfl, hb7⟩; have HB7 := hid hb7; clear hb7) | (go_at_call 63; refine (HI6.out w7 HB7.out).mono ?_; rintro e w8 ⟨rfl, hb8⟩; have HB8 := hid hb8; clear hb8) | (go_at_call 73; refine (HCR.out w8).mono ?_; rintro e w9 ⟨rfl, hb9⟩; have HB9 := hid hb9; clear hb9))
            go_roundw
            case rel => exact ⟨k + 1, by omega, by go_num, by rw [HS2.out], by
              have e8 := HB7.out.trans (HB8.out.mono HB7.out.size)
              exact HB6.out.trans ((e8.trans (HB9.out.mono e8.size)).mono HB6.out.size)⟩
            case measure => simp [intOf]; omega
    · have hke : k = m + 1 := by omega
      subst hke
      go_wp2
      go_ret
      exact ⟨by rw [HV.out]; rfl, HB.out⟩

theorem joined_any : ∀ (m : Nat) (r : ByteArray) (L : List ByteArray) (a : Option Addr) (c : Nat) (w : World), L.length = m → L.length ≤ c → c ≤ maxLen → r.size + 24 * m ≤ 1000 → (∀ x ∈ L, x.size ≤ 24) → MaxL w → RdS w a L →
      Calls Try.prog 63 #[.string r, .slice a L.length c] w fun e w' => e = .returned (.string (B.jn m r L)) ∧ Below w.heap.size w w'
  | 0, r, L, a, c, w, hL, hc, hc2, hz, hx, hm, hr => by
    rw [hL]
    have HV : Hid (B.jn 0 r L = r) := hid rfl
    clear hL hc hc2 hz hx hm hr
    go_enter Try.func63, Try.ntmps63
    go_wp2
    go_loop [5, 13] (fun x i => x = .string r ∧ i = .int .i64 0) (fun _ _ => 0)
    case atStart => exact ⟨rfl, rfl⟩
    case round =>
      obtain ⟨rfl, rfl⟩ := hrel
      go_wp2
      go_ret
      exact ⟨by rw [HV.out]; rfl, Below.refl _ _⟩
  | m + 1, r, L, a, c, w, hL, hc, hc2, hz, hx, hm, hr => joined_step m (joined_any m) r L a c w hL hc hc2 hz hx hm hr

def B.joinV (L : List ByteArray) : ByteArray × Int := if B.chkP L = 0 then (B.jn L.length ⟨#[]⟩ L, 0) else (⟨#[]⟩, B.chkP L)
theorem B.chkL_ok : ∀ {L : List ByteArray}, B.chkL L = 0 → ∀ x ∈ L, B.chk x = 0 ∧ x.size ≤ 8
  | [], _, x, hx => absurd hx List.not_mem_nil
  | b :: l, h, x, hx => by
    unfold B.chkL at h
    split at h
    · rename_i h1; exact absurd h h1
    · rename_i h1
      split at h
      · omega
      · rename_i h2
        rcases List.mem_cons.1 hx with rfl | hx
        · exact ⟨by simpa using h1, by omega⟩
        · exact B.chkL_ok h x hx
theorem B.chkP_ok {L : List ByteArray} (h : B.chkP L = 0) : 1 ≤ L.length ∧ L.length ≤ 5 ∧ ∀ x ∈ L, B.chk x = 0 ∧ x.size ≤ 8 := by
  unfold B.chkP at h
  split at h
  · omega
  · split at h
    · omega
    · exact ⟨by omega, by omega, B.chkL_ok h⟩
theorem B.jnTo_size {f : ByteArray → List ByteArray → ByteArray} {r : ByteArray} {L : List ByteArray} {n : Nat} (hr : r.size ≤ n) (hf : ∀ k (h : k < L.length), (f (B.grow r L[k]) (L.take k ++ L.drop (k + 1))).size ≤ n) : ∀ k, k ≤ L.length → (B.jnTo f r L k).size ≤ n
  | 0, _ => hr
  | k + 1, hk => by
    have h1 := hf k (by omega)
    have e : L.getD k ⟨#[]⟩ = L[k] := by simp only [List.getD, List.getElem?_eq_getElem (show k < L.length by omega), Option.getD_some]
    unfold B.jnTo
    rw [e]
    split
    · exact h1
    · exact B.jnTo_size hr hf k (by omega)
theorem B.jn_size : ∀ (m : Nat) (r : ByteArray) (L : List ByteArray), L.length = m → (∀ x ∈ L, x.size ≤ 24) → (B.jn m r L).size ≤ r.size + 24 * m
  | 0, r, L, _, _ => Nat.le_refl _
  | m + 1, r, L, hL, hx => by
    refine B.jnTo_size (by omega) (fun k hk => ?_) _ (Nat.le_refl _)
    have h1 := B.jn_size m (B.grow r L[k]) (L.take k ++ L.drop (k + 1)) (by rw [List.length_append, List.length_take, List.length_drop]; omega) (fun x hx' => by
      rcases List.mem_append.1 hx' with h | h
      · exact hx x (List.mem_of_mem_take h)
      · exact hx x (List.mem_of_mem_drop h))
    have h2 := B.grow_size r L[k]
    have h3 := hx L[k] (List.getElem_mem hk)
    omega

set_option maxHeartbeats 400000 in
set_option maxRecDepth 100000 in
theorem join_any (a : Option Addr) (c : Nat) (L : List ByteArray) (w : World) (hL : L.length ≤ c) (hc : c ≤ maxLen) (hs : ∀ k (h : k < L.length), L[k].size ≤ maxLen) (hm : MaxL w) (hr : RdS w a L) :
    Calls Try.prog 35 #[.slice a L.length c] w fun e w' => e = .returned (.tuple #[.string (B.joinV L).1, .int .i64 (B.joinV L).2]) ∧ Below w.heap.size w w' := by
  have CC := hid (checkParts_any a c L w (Nat.le_trans hL hc) hs hr)
  by_cases h0 : B.chkP L = 0
  · have hok := B.chkP_ok h0
    have hx : ∀ x ∈ L, x.size ≤ 24 := fun x hx => by have := (hok.2.2 x hx).2; omega
    have hz := B.jn_size L.length ⟨#[]⟩ L rfl hx
    have he : (⟨#[]⟩ : ByteArray).size = 0 := rfl
    have HV : Hid (B.joinV L = (B.jn L.length ⟨#[]⟩ L, 0)) := hid (by unfold B.joinV; rw [if_pos h0])
    have CJ := hid (fun w1 (hb : Below w.heap.size w w1) => joined_any L.length ⟨#[]⟩ L a c w1 rfl hL hc (by rw [he]; omega) hx (hm.stays hb) (hr.stays hb))
    have CL := hid (fun w => clone_any (B.jn L.length ⟨#[]⟩ L) w (by omega))
    rw [h0] at CC
    clear h0 hok hx hz he hm hr hs hL hc
    generalize B.jn L.length ⟨#[]⟩ L = f at *
    go_enter Try.func35, Try.ntmps35
    go_wp2_with (first | (go_at_call 62; refine CC.out.mono ?_; rintro e w1 ⟨rfl, b1⟩; replace b1 := hid b1) | (go_at_call 63; refine (CJ.out w1 b1.out).mono ?_; rintro e w2 ⟨rfl, b2⟩; replace b2 := hid b2) | (go_at_call 49; refine (CL.out _).mono ?_; rintro e w3 ⟨rfl, b3⟩; replace b3 := hid b3))
    go_ret2
    exact ⟨by rw [HV.out]; rfl, (b1.out.trans (b2.out.mono b1.out.size)).trans (b3.out.mono (Nat.le_trans b1.out.size b2.out.size))⟩
  · have HV : Hid (B.joinV L = (⟨#[]⟩, B.chkP L)) := hid (by unfold B.joinV; rw [if_neg h0])
    have hn : (B.chkP L != 0) = true := by simpa using h0
    clear h0
    generalize B.chkP L = c at *
    go_enter Try.func35, Try.ntmps35
    go_wp2_with (go_at_call 62; refine CC.out.mono ?_; rintro e w1 ⟨rfl, b1⟩; replace b1 := hid b1)
    go_ret2
    exact ⟨by rw [HV.out]; rfl, b1.out⟩
end Go.Proofs.Ytiodcgdjphmffaa
