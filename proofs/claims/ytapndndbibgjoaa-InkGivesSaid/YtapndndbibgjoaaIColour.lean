/- Package ink: the walks of Colour, and of the reference's. -/
import Derived.Test.YtapndndbibgjoaaIGive
namespace Go.Proofs.Ytapndndbibgjoaa
open Go.RowKit

/-- The slice with this address reads as these bools. -/
def RdB (w : World) (a : Option Addr) (ch : List Bool) : Prop :=
  ∀ k (h : k < ch.length), ∃ b off, a = some ⟨b, off, none⟩ ∧ w.cell? ⟨b, off + k, none⟩ = some (.bool ch[k])
theorem RdB.stays {w w' : World} {a : Option Addr} {xs : List Bool} (h : RdB w a xs) (hb : Below w.heap.size w w') : RdB w' a xs := fun k hk => by
  obtain ⟨b, off, ha, hc⟩ := h k hk
  exact ⟨b, off, ha, cell_stays hb (Nat.le_refl _) hc⟩

/-- The colour of a choice, up to the k-th stone. -/
def K.mix (R : List (List Int)) (ch : List Bool) : Nat → Nat
  | 0 => 0
  | k + 1 => if ch.getD k false = true then ((R.getD k []).getD (K.mix R ch k) 0).toNat else K.mix R ch k
/-- The error of Colour. -/
def K.clrE (n : Int) (T : List (List Int)) (l : List Int) (ch : List Bool) : Int := if K.sq n T l 12 ≠ 0 then K.sq n T l 12 else if ch.length ≠ l.length then 3 else 0
/-- What Colour returns. -/
def K.clrV (n : Int) (T : List (List Int)) (l : List Int) (ch : List Bool) : Int := if K.clrE n T l ch ≠ 0 then 0 else ((K.mix (K.rowsOf T l) ch l.length : Nat) : Int)

theorem K.mix_lt {n : Nat} (h1 : 1 ≤ n) {R : List (List Int)} (hR : ∀ r ∈ R, K.Row n r) (ch : List Bool) : ∀ k, k ≤ R.length → K.mix R ch k < n
  | 0, _ => by show 0 < n; omega
  | k + 1, hk => by
    have ih := K.mix_lt h1 hR ch k (by omega)
    unfold K.mix
    split
    · have hr := hR R[k] (List.getElem_mem (by omega))
      obtain ⟨m, hm, e⟩ := hr.at ih
      simp only [List.getD, List.getElem?_eq_getElem (show k < R.length by omega), Option.getD_some] at e ⊢
      rw [e, Int.toNat_natCast]; exact hm
    · exact ih

theorem K.ink_cases {n : Nat} {r : List Int} (hr : K.Row n r) (h1 : 1 ≤ n) (h7 : n ≤ 7) :
    (∃ m : Nat, m < n ∧ K.ink r = .iface 128 (.int .i64 m) ∧ ∀ c, c < n → r.getD c 0 = (m : Int)) ∨
    (∃ X : Array Value, K.ink r = .iface 130 (.agg X) ∧ X.size = 7 ∧ ∀ c, c < n → ∃ m : Nat, m < n ∧ r.getD c 0 = (m : Int) ∧ X[c]? = some (.int .i64 (m : Int))) := by
  by_cases ho : K.opq r = true
  · obtain ⟨m, hm, e⟩ := hr.at (c := 0) h1
    refine Or.inl ⟨m, hm, by unfold K.ink; rw [if_pos ho, e], fun c hc => ?_⟩
    have hcl : c < r.length := by rw [hr.1]; exact hc
    have := opq_all ho r[c] (List.getElem_mem hcl)
    rw [e] at this
    simpa [List.getD, List.getElem?_eq_getElem hcl] using this
  · refine Or.inr ⟨((K.tc r).map (Value.int .i64)).toArray, by unfold K.ink; rw [if_neg ho], by simp [K.tc_length (show r.length ≤ 7 by rw [hr.1]; exact h7)], fun c hc => ?_⟩
    obtain ⟨m, hm, hm2⟩ := hr.at hc
    have hcl : c < r.length := by rw [hr.1]; exact hc
    refine ⟨m, hm, hm2, ?_⟩
    rw [← hm2]
    unfold K.tc
    have : (r ++ List.replicate (7 - r.length) 0)[c]? = some r[c] := by rw [List.getElem?_append_left hcl, List.getElem?_eq_getElem hcl]
    simp only [List.getElem?_toArray, List.getElem?_map, this, List.getD, List.getElem?_eq_getElem hcl, Option.getD_some]
    rfl

theorem overO_any (x : Int) (c : Int) (w : World) :
    Calls Try.prog 130 #[.int .i64 x, .int .i64 c] w fun e w' => e = .returned (.int .i64 x) ∧ w' = w := by
  go_enter Try.func130, Try.ntmps130
  go_wp2
  go_ret
  exact ⟨rfl, rfl⟩

set_option maxHeartbeats 4000000 in
set_option maxRecDepth 100000 in
theorem inkColour_any (n : Int) (a al ac : Option Addr) (c cl cc : Nat) (T : List (List Int)) (l : List Int) (ch : List Bool) (w : World) (hm : T.length ≤ maxLen) (hml : l.length ≤ maxLen) (hmc : ch.length ≤ maxLen) (hT : RdM w a T) (hl : RdI w al l) (hc : RdB w ac ch) :
    Calls Try.prog 19 #[K.pal n a T.length c, .slice al l.length cl, .slice ac ch.length cc] w fun e w' => e = .returned (.tuple #[.int .i64 (K.clrV n T l ch), .int .i64 (K.clrE n T l ch)]) ∧ Below w.heap.size w w' := by
  have hb0 : Below w.heap.size w (w.alloc (.cells #[.int .i64 n, .slice a T.length c] 24)) := (Below.refl _ _).alloc (Nat.le_refl _) _
  have k0 : (w.alloc (.cells #[.int .i64 n, .slice a T.length c] 24)).cell? ⟨w.heap.size, 0, none⟩ = some (.int .i64 n) := by rw [World.cell?_alloc_at _ _ _ _ rfl]; rfl
  have k1 : (w.alloc (.cells #[.int .i64 n, .slice a T.length c] 24)).cell? ⟨w.heap.size, 1, none⟩ = some (.slice a T.length c) := by rw [World.cell?_alloc_at _ _ _ _ rfl]; rfl
  have HB0 := hid hb0
  have HK0 := hid k0
  have HK1 := hid k1
  have HC := hid (checkStones_any n a al c cl T l 12 _ hm hml (hT.stays hb0) (hl.stays hb0))
  have HT := hid (hT.stays hb0)
  have HL := hid (hl.stays hb0)
  have HCH := hid (hc.stays hb0)
  have HE : Hid (K.clrE n T l ch = if K.sq n T l 12 ≠ 0 then K.sq n T l 12 else if ch.length ≠ l.length then 3 else 0) := hid rfl
  have HV : Hid (K.clrV n T l ch = if K.clrE n T l ch ≠ 0 then 0 else ((K.mix (K.rowsOf T l) ch l.length : Nat) : Int)) := hid rfl
  clear hb0 hT hl hc
  unfold maxLen at hml hmc
  unfold K.pal at HC ⊢
  by_cases h0 : K.sq n T l 12 = 0
  · obtain ⟨hg0, h12, hin⟩ := K.sq_good h0
    have hg := K.good_of hg0
    rw [h0] at HC
    by_cases h1 : ch.length = l.length
    · have hE : K.clrE n T l ch = 0 := by rw [HE.out, if_neg (by omega), if_neg (by omega)]
      have hV : K.clrV n T l ch = ((K.mix (K.rowsOf T l) ch l.length : Nat) : Int) := by rw [HV.out, if_neg (by omega)]
      rw [hE, hV]
      clear hE hV HE HV h0
      have h7 : n.toNat ≤ 7 := by have := hg.hi; omega
      have hn1 : 1 ≤ n.toNat := by have := hg.lo; omega
      have HROW := hid (K.rowsOf_rows hg hin)
      have HS := hid (fun W hx hy => stonesOf_any n a al c cl T l W hg hin h12 hx hy)
      have hlr := K.rowsOf_length T l
      have hne : ((ch.length : Int) != (l.length : Int)) = false := by rw [h1]; simp
      unfold K.pal at HS
      clear hg hin hg0
      rw [hlr] at HS
      generalize K.rowsOf T l = R at *
      go_enter Try.func19, Try.ntmps19
      go_wp2_with fail
      generalize w.alloc (.cells #[.int .i64 n, .slice a T.length c] 24) = w1 at *
      refine HC.out.mono ?_
      rintro e w2 ⟨rfl, hb⟩
      have HB2 := hid (HB0.out.trans (hb.mono HB0.out.size))
      have q0 := cell_stays hb (Nat.le_refl _) HK0.out
      have q1 := cell_stays hb (Nat.le_refl _) HK1.out
      have HS2 := hid (HS.out w2 (HT.out.stays hb) (HL.out.stays hb))
      have HCH2 := hid (HCH.out.stays hb)
      clear hb HC HS HT HL HCH k0 k1
      go_wp2_with fail
      refine HS2.out.mono ?_
      rintro e w3 ⟨rs, rc, rfl, hrc, hrd, hb⟩
      have HB3 := hid (HB2.out.trans (hb.mono HB2.out.size))
      have HRD := hid hrd
      have HCH3 := hid (HCH2.out.stays hb)
      clear hb hrd HS2 HCH2 HB2 q0 q1
      go_wp2
      go_loopw [9, 27] (fun v i wr => ∃ k : Nat, k ≤ l.length ∧ i = .int .i64 k ∧ v = .int .i64 (K.mix R ch k : Nat) ∧ Below w3.heap.size w3 wr) (fun _ i _ => l.length - (intOf i).toNat)
      case atStart => exact ⟨0, Nat.zero_le _, rfl, rfl, Below.refl _ _⟩
      case round =>
        obtain ⟨k, hk, rfl, rfl, hb⟩ := hrel
        have HB := hid hb
        clear hb
        by_cases hlt : k < l.length
        · have hkR : k < R.length := by omega
          obtain ⟨b, off, rfl, hcx⟩ := (HRD.out.stays HB.out).at hkR
          have hkc : k < ch.length := by omega
          obtain ⟨b2, off2, rfl, hcc⟩ := (HCH3.out.stays HB.out) k hkc
          have hrow := HROW.out R[k] (List.getElem_mem hkR)
          have hml2 := K.mix_lt hn1 HROW.out ch k (by omega)
          have HMS : Hid (K.mix R ch (k + 1) = if ch[k] = true then (R[k].getD (K.mix R ch k) 0).toNat else K.mix R ch k) := hid (by
            rw [show K.mix R ch (k + 1) = if ch.getD k false = true then ((R.getD k []).getD (K.mix R ch k) 0).toNat else K.mix R ch k from rfl]
            simp only [List.getD, List.getElem?_eq_getElem hkR, List.getElem?_eq_getElem hkc, Option.getD_some])
          have hix : (0 : Int) ≤ (k : Int) ∧ (k : Int) < (l.length : Int) := by omega
          have hix2 : (k : Int) < (ch.length : Int) := by omega
          have HCS := hid (K.ink_cases hrow hn1 h7)
          obtain ⟨tt, vv, hq⟩ : ∃ tt vv, K.ink R[k] = .iface tt vv := by unfold K.ink; split <;> exact ⟨_, _, rfl⟩
          clear hrow
          generalize K.mix R ch k = y at *
          generalize R[k] = row at *
          generalize ch[k] = yes at *
          cases yes with
          | false =>
            have HN : Hid (K.mix R ch (k + 1) = y) := hid (by rw [HMS.out, if_neg (by simp)])
            rw [hq] at hcx
            clear HMS HCS hq
            go_wp2
            go_roundw
            case rel => exact ⟨k + 1, by omega, by go_num, by rw [HN.out], HB.out⟩
            case measure => simp [intOf]; omega
          | true =>
            rcases HCS.out with ⟨m, hm2, hk2, hall⟩ | ⟨X, hk2, hX7, hall⟩
            · have HN : Hid (K.mix R ch (k + 1) = m) := hid (by rw [HMS.out, if_pos rfl, hall y hml2, Int.toNat_natCast])
              rw [hk2] at hcx
              have HO := hid (fun W => overO_any m y W)
              clear HMS HCS hq hall hk2
              go_wp2_with fail
              refine (HO.out _).mono ?_
              rintro e w4 ⟨rfl, rfl⟩
              go_wp2
              go_roundw
              case rel => exact ⟨k + 1, by omega, by go_num, by rw [HN.out], HB.out⟩
              case measure => simp [intOf]; omega
            · obtain ⟨m, hm2, hm3, hm4⟩ := hall y hml2
              have HN : Hid (K.mix R ch (k + 1) = m) := hid (by rw [HMS.out, if_pos rfl, hm3, Int.toNat_natCast])
              rw [hk2] at hcx
              have HO := hid (fun W => over_any X m y W hX7 (by omega) hm4)
              clear HMS HCS hq hall hk2 hm3 hm4 hX7
              go_wp2_with fail
              refine (HO.out _).mono ?_
              rintro e w4 ⟨rfl, hb4⟩
              have HB4 := hid (HB.out.trans (hb4.mono HB.out.size))
              clear hb4 HB hcx hcc
              go_wp2
              go_roundw
              case rel => exact ⟨k + 1, by omega, by go_num, by rw [HN.out], HB4.out⟩
              case measure => simp [intOf]; omega
        · have hke : k = l.length := by omega
          subst hke
          have HBZ := hid (HB3.out.trans (HB.out.mono HB3.out.size))
          go_wp2
          go_ret2
          exact ⟨rfl, HBZ.out⟩
    · have hE : K.clrE n T l ch = 3 := by rw [HE.out, if_neg (by omega), if_pos h1]
      have hV : K.clrV n T l ch = 0 := by rw [HV.out, if_pos (by omega)]
      rw [hE, hV]
      have hne : ((ch.length : Int) != (l.length : Int)) = true := by simp; omega
      clear hE hV HE HV h0
      go_enter Try.func19, Try.ntmps19
      go_wp2_with fail
      generalize w.alloc (.cells #[.int .i64 n, .slice a T.length c] 24) = w1 at *
      refine HC.out.mono ?_
      rintro e w2 ⟨rfl, hb⟩
      have HB2 := hid (HB0.out.trans (hb.mono HB0.out.size))
      clear hb HC k0 k1
      go_wp2
      go_ret2
      exact ⟨rfl, HB2.out⟩
  · have hE : K.clrE n T l ch = K.sq n T l 12 := by rw [HE.out, if_pos h0]
    have hV : K.clrV n T l ch = 0 := by rw [HV.out, hE, if_pos h0]
    rw [hE, hV]
    have h0b : (K.sq n T l 12 == 0) = false := by simpa using h0
    clear hE hV HE HV
    generalize K.sq n T l 12 = q at *
    clear h0
    go_enter Try.func19, Try.ntmps19
    go_wp2_with fail
    generalize w.alloc (.cells #[.int .i64 n, .slice a T.length c] 24) = w1 at *
    refine HC.out.mono ?_
    rintro e w2 ⟨rfl, hb⟩
    have HB2 := hid (HB0.out.trans (hb.mono HB0.out.size))
    clear hb HC k0 k1
    go_wp2
    go_ret2
    exact ⟨rfl, HB2.out⟩
end Go.Proofs.Ytapndndbibgjoaa
