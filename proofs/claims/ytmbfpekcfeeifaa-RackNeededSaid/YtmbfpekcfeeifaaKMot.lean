/- The walk of the law RackMotion. -/
import Derived.Test.YtmbfpekcfeeifaaKSet
import Derived.Test.YtmbfpekcfeeifaaKWorks
import Derived.Deep.RegionHeld3
namespace Go.Proofs.Ytmbfpekcfeeifaa
open Go.RowKit Ev

theorem K.mbs_len (cb : Bool) (m n : Nat) (T : List (Nat × Nat × Nat)) : (K.mbs cb m n T).length ≤ 9 := by
  unfold K.mbs; rw [List.length_map, List.length_take]; omega
theorem K.mbs_ok (cb : Bool) {m n : Nat} (hm : 1 ≤ m ∧ m ≤ 3) (hn : 1 ≤ n ∧ n ≤ 3) (T : List (Nat × Nat × Nat)) : K.Ok m n (K.mbs cb m n T) := by
  have mem : ∀ b ∈ K.mbs cb m n T, ∃ t, b = K.mbr cb m n t := fun b hb => by
    unfold K.mbs at hb
    obtain ⟨t, _, rfl⟩ := List.mem_map.1 hb
    exact ⟨t, rfl⟩
  refine ⟨hm.1, by omega, hn.1, by omega, Nat.le_trans (K.mbs_len cb m n T) (by decide), fun b hb => ?_, fun b hb => ?_⟩
  · obtain ⟨t, rfl⟩ := mem b hb
    have h1 : t.1 % m < m := Nat.mod_lt _ (by omega)
    have h2 : t.2.1 % n < n := Nat.mod_lt _ (by omega)
    unfold K.InB K.mbr
    exact ⟨Int.natCast_nonneg _, (show ((t.1 % m : Nat) : Int) < (m : Int) by omega), Int.natCast_nonneg _, (show ((t.2.1 % n : Nat) : Int) < (n : Int) by omega)⟩
  · obtain ⟨t, rfl⟩ := mem b hb
    unfold K.mbr
    have h3 : t.2.2 % 3 < 3 := Nat.mod_lt _ (by decide)
    cases cb with
    | false => exact .inl rfl
    | true =>
      show ((t.2.2 % 3 : Nat) : Int) = 0 ∨ ((t.2.2 % 3 : Nat) : Int) = 1 ∨ ((t.2.2 % 3 : Nat) : Int) = 2
      omega
/-- Stiff, by all small motions and by all sets. -/
theorem K.Ok.rg {m n : Nat} {bs : List Br} (h : K.Ok m n bs) : K.rgk (m + n) m bs (-1) (3 ^ (m + n)) = K.stf m n bs := by
  have h1 := h.m1
  rw [Bool.eq_iff_iff, K.stf_iff h.chk (by omega), K.rg_iff (by omega) (by unfold K.bt; rw [if_pos rfl]; exact h.inb) (by unfold K.bt; rw [if_pos rfl]; exact h.kind) (.inl rfl)]
  unfold K.bt
  rw [if_pos rfl]
theorem K.Ok.jn {m n : Nat} {bs : List Br} (h : K.Ok m n bs) : K.jnk m bs (2 ^ (m + n) - 1) = K.stf m n bs := by
  have h1 := h.m1
  rw [Bool.eq_iff_iff, K.stf_iff h.chk (by omega), K.jn_iff h.inb]
/-- A motion that Verify accepts is no turn of the whole rack and keeps all braces. -/
theorem K.ver_mvs {m n : Nat} {bs : List Br} {R C : List Int} (h : K.Ok m n bs) (hv : K.ver m n bs R C = 0) : R.length = m ∧ C.length = n ∧ K.same (R ++ C) = false ∧ K.kla m (R ++ C) bs (-1) bs.length = true := by
  unfold K.ver at hv
  rw [if_pos h.chk] at hv
  split at hv
  case isFalse => omega
  rename_i hl
  split at hv
  case isTrue => omega
  split at hv
  case isTrue => omega
  rename_i hs
  split at hv
  case isFalse => omega
  rename_i ha
  have hR : R.length = m := by omega
  have hC : C.length = n := by omega
  refine ⟨hR, hC, by simpa using hs, (K.kla_all (.inl rfl)).2 fun b hb => ?_⟩
  unfold K.bt at hb
  rw [if_pos rfl] at hb
  rw [List.all_eq_true] at ha
  have hk := ha b hb
  have hi := h.inb b hb
  unfold K.InB at hi
  have e1 : (R ++ C).getD b.1.toNat 0 = R.getD b.1.toNat 0 := by
    rw [List.getD_eq_getElem?_getD, List.getD_eq_getElem?_getD, List.getElem?_append_left (by omega)]
  have e2 : (R ++ C).getD (m + b.2.1.toNat) 0 = C.getD b.2.1.toNat 0 := by
    rw [List.getD_eq_getElem?_getD, List.getD_eq_getElem?_getD, List.getElem?_append_right (by omega), show m + b.2.1.toNat - R.length = b.2.1.toNat by omega]
  unfold K.kl
  unfold K.kp at hk
  rw [e1, e2]
  exact hk

set_option maxHeartbeats 8000000 in
set_option maxRecDepth 100000 in
theorem rackMotion_walk (r0 c0 : Nat) (a : Option Addr) (cap : Nat) (T : List (Nat × Nat × Nat)) (w : World) (hr : r0 < 256) (hc : c0 < 256) (hmT : T.length ≤ maxLen) (hR : RdT w a T) (h8 : ∀ t ∈ T, t.1 < 256 ∧ t.2.1 < 256 ∧ t.2.2 < 256) :
    Calls Try.prog 7 #[K.shv r0 c0 a T.length cap] w fun e w' => e = .returned (.bool true) ∧ Below w.heap.size w w' := by
  have hb0 : Below w.heap.size w (w.alloc (.cells #[.int .u8 (r0 : Int), .int .u8 (c0 : Int), .slice a T.length cap] 72)) := (Below.refl _ _).alloc (Nat.le_refl _) _
  have HB0 := hid hb0
  have HMD := hid (made_any true r0 c0 a cap T _ hr hc hmT (hR.stays hb0) h8)
  have hm3 : 1 ≤ r0 % 3 + 1 ∧ r0 % 3 + 1 ≤ 3 := by have := Nat.mod_lt r0 (show 0 < 3 by decide); omega
  have hn3 : 1 ≤ c0 % 3 + 1 ∧ c0 % 3 + 1 ≤ 3 := by have := Nat.mod_lt c0 (show 0 < 3 by decide); omega
  have HOK := hid (K.mbs_ok true hm3 hn3 T)
  have hlen := K.mbs_len true (r0 % 3 + 1) (c0 % 3 + 1) T
  have HWK := hid works_gives
  unfold K.Gvn at HMD
  clear hb0 hR h8
  generalize r0 % 3 + 1 = m at *
  generalize c0 % 3 + 1 = n at *
  generalize K.mbs true m n T = bs at *
  have HCK : Hid (K.chk m n bs = 0) := hid HOK.out.chk
  have hmx : bs.length ≤ maxLen := by unfold maxLen; omega
  have HST := hid (fun a9 c9 W hx => stiff_any m n a9 c9 bs W hmx hx)
  have HMV := hid (fun a9 c9 W hx => move_any m n a9 c9 bs W hmx hx)
  have HRG := hid (fun a9 c9 W hx => rigid_any m n a9 c9 bs (-1) W (by omega) hx HOK.out.inb HOK.out.kind (by omega) (by omega))
  have HVF := hid (fun a9 c9 r1 s1 R r2 s2 C W h1 h2 hx hr1 hr2 => verify_any m n a9 c9 bs r1 s1 R r2 s2 C W hmx h1 h2 hx hr1 hr2)
  have HKP := hid (fun a9 c9 a1 c1 l W hx hl h1 => keepsL_any m n a9 c9 bs a1 c1 l (-1) W (by omega) hx HOK.out.inb HOK.out.kind (by omega) (by omega) hl h1)
  rw [HCK.out] at HST
  rw [HOK.out.rg] at HRG
  have HLSE : Hid (K.lse m n bs = if K.stf m n bs = true then 14 else 0) := hid (by unfold K.lse; rw [if_pos HCK.out])
  unfold K.MvE at HMV
  have HJN := hid HOK.out.jn
  have HIB := hid HOK.out.inb
  have HKZ := hid HOK.out.kind
  have HVM := hid (fun R C (hv : K.ver m n bs R C = 0) => K.ver_mvs HOK.out hv)
  unfold K.rk at HMD HST HMV HRG HVF HKP
  unfold K.shv
  clear HOK hmx
  go_enter Try.func7, Try.ntmps7
  go_wp2_with fail
  refine HMD.out.mono ?_
  rintro e w1 ⟨a9, c9, rfl, h91, h92, hr9, hb⟩
  have HB1 := hid (HB0.out.trans (hb.mono HB0.out.size))
  have hal : Below w1.heap.size w1 (w1.alloc (.cells #[.int .i64 (m : Int), .int .i64 (n : Int), .slice a9 bs.length c9] 24)) := (Below.refl _ _).alloc (Nat.le_refl _) _
  have HR2 := hid (hr9.stays hal)
  have HB2 := hid (HB1.out.trans (hal.mono HB1.out.size))
  have HZ2 : Hid ((w1.alloc (.cells #[.int .i64 (m : Int), .int .i64 (n : Int), .slice a9 bs.length c9] 24)).rowIs w1.heap.size 24 3 (K.rkF m n (.slice a9 bs.length c9))) := hid (World.rowIs_alloc w1 #[.int .i64 (m : Int), .int .i64 (n : Int), .slice a9 bs.length c9] 24 _ (fun i hi => by
    have h : i < 3 := hi
    have h2 : i = 0 ∨ i = 1 ∨ i = 2 := by omega
    rcases h2 with rfl | rfl | rfl <;> rfl))
  have hws : IntKind.i64.wrap ((m : Int) + (n : Int)) = ((m + n : Nat) : Int) := by rw [IntWalk.i64_in _ (by omega)]; rfl
  clear hb hr9 h91 h92 hal HMD HB0 HB1
  go_wp2_with fail
  generalize w1.alloc (.cells #[.int .i64 (m : Int), .int .i64 (n : Int), .slice a9 bs.length c9] 24) = w2 at *
  generalize w1.heap.size = gv at *
  clear w1
  refine (HST.out _ _ w2 HR2.out).mono ?_
  rintro e w3 ⟨rfl, hb⟩
  have HZ3 := hid (HZ2.out.of_block (hb.block _ HZ2.out.lt))
  have HR3 := hid (HR2.out.stays hb)
  have HB3 := hid (HB2.out.trans (hb.mono HB2.out.size))
  have k0 : w3.cell? ⟨gv, 0, none⟩ = some (.int .i64 (m : Int)) := HZ3.out.cell (i := 0) (by omega)
  have k1 : w3.cell? ⟨gv, 1, none⟩ = some (.int .i64 (n : Int)) := HZ3.out.cell (i := 1) (by omega)
  have k2 : w3.cell? ⟨gv, 2, none⟩ = some (.slice a9 bs.length c9) := HZ3.out.cell (i := 2) (by omega)
  clear hb HZ2 HR2 HB2 HST
  go_wp2_with fail
  refine (HMV.out _ _ w3 HR3.out).mono ?_
  rintro e w4 ⟨R, C, r1, s1, r2, s2, rfl, hr1, hr2, hb, hmv⟩
  have HMD := hid hmv
  have HZ4 := hid (HZ3.out.of_block (hb.block _ HZ3.out.lt))
  have HR4 := hid (HR3.out.stays hb)
  have HB4 := hid (HB3.out.trans (hb.mono HB3.out.size))
  have HI1 := hid hr1
  have HI2 := hid hr2
  have hal : Below w4.heap.size w4 (w4.alloc (.cells #[.slice r1 R.length s1, .slice r2 C.length s2] 50)) := (Below.refl _ _).alloc (Nat.le_refl _) _
  have HRG5 := hid (HRG.out a9 c9 _ (HR4.out.stays hal))
  have HO5 : Hid ((w4.alloc (.cells #[.slice r1 R.length s1, .slice r2 C.length s2] 50)).rowIs w4.heap.size 50 2 (K.moF (.slice r1 R.length s1) (.slice r2 C.length s2))) := hid (World.rowIs_alloc w4 #[.slice r1 R.length s1, .slice r2 C.length s2] 50 _ (fun i hi => by
    have h : i < 2 := hi
    have h2 : i = 0 ∨ i = 1 := by omega
    rcases h2 with rfl | rfl <;> rfl))
  have HZ5 := hid (HZ4.out.of_block (hal.block _ HZ4.out.lt))
  have HR5 := hid (HR4.out.stays hal)
  have HB5 := hid (HB4.out.trans (hal.mono HB4.out.size))
  have HJ1 := hid (HI1.out.stays2 hal)
  have HJ2 := hid (HI2.out.stays2 hal)
  have j0 : w4.cell? ⟨gv, 0, none⟩ = some (.int .i64 (m : Int)) := HZ4.out.cell (i := 0) (by omega)
  have j1 : w4.cell? ⟨gv, 1, none⟩ = some (.int .i64 (n : Int)) := HZ4.out.cell (i := 1) (by omega)
  have j2 : w4.cell? ⟨gv, 2, none⟩ = some (.slice a9 bs.length c9) := HZ4.out.cell (i := 2) (by omega)
  have hgv : gv < w4.heap.size := HZ4.out.lt
  have hss : (K.stf m n bs != K.stf m n bs) = false := by simp
  clear hb hr1 hr2 hmv hal k0 k1 k2 HZ3 HR3 HB3 HMV HZ4 HR4 HB4 HI1 HI2 HRG
  generalize hst : K.stf m n bs = st at *
  have HSTE := hid hst
  clear hst
  go_wp2_with fail
  clear j0 j1 j2 hgv
  generalize w4.alloc (.cells #[.slice r1 R.length s1, .slice r2 C.length s2] 50) = w5 at *
  generalize w4.heap.size = g7 at *
  clear w4
  refine HRG5.out.mono ?_
  rintro e w6 ⟨rfl, hb⟩
  have HZ6 := hid (HZ5.out.of_block (hb.block _ HZ5.out.lt))
  have HO6 := hid (HO5.out.of_block (hb.block _ HO5.out.lt))
  have HR6 := hid (HR5.out.stays hb)
  have HB6 := hid (HB5.out.trans (hb.mono HB5.out.size))
  have HJ16 := hid (HJ1.out.stays2 hb)
  have HJ26 := hid (HJ2.out.stays2 hb)
  clear hb HZ5 HO5 HR5 HB5 HJ1 HJ2 HRG5
  go_wp2
  have e1 : (m : Int) + (n : Int) = ((m + n : Nat) : Int) := by omega
  rw [e1]
  have hpw : 2 ^ (m + n) ≤ 64 := Nat.pow_le_pow_right (n := 2) (i := m + n) (j := 6) (by decide) (by omega)
  have hpw2 : 4 ≤ 2 ^ (m + n) := Nat.pow_le_pow_right (n := 2) (i := 2) (j := m + n) (by decide) (by omega)
  have hN6 : 2 ≤ m + n ∧ m + n ≤ 6 := by omega
  have hsh := pow_i64 (p := m + n) (by omega)
  clear e1 hws hss
  generalize hNd : m + n = N at *
  generalize hTd : 2 ^ N = TT at *
  have hsh2 : wrap64 ((2 : Int) ^ N) = (TT : Int) := by rw [← IntWalk.i64_left]; exact hsh
  have HSH := hid (show IntKind.i64.wrap ((2 : Int) ^ N) = (TT : Int) ∧ wrap64 ((2 : Int) ^ N) = (TT : Int) from ⟨hsh, hsh2⟩)
  have HND := hid hNd
  clear hNd hTd hsh hsh2
  have HLK := hid (fun s k (h : k < bs.length) => K.lf_succ (m := m) (s := s) h)
  have HJK : Hid (∀ s, 1 ≤ s → K.jnk m bs (s + 1) = (K.jnk m bs s && K.lf m s bs bs.length)) := hid (fun s hs => by
    conv => lhs; unfold K.jnk
    rw [if_neg (by omega)])
  have HJ1' : Hid (K.jnk m bs 1 = true) := hid (by unfold K.jnk; rfl)
  go_loopw [9, 10] (fun j s wr => ∃ s' : Nat, 1 ≤ s' ∧ s' ≤ TT - 1 ∧ s = .int .i64 s' ∧ j = .bool (K.jnk m bs s') ∧ Below w6.heap.size w6 wr) (fun _ s _ => TT - (intOf s).toNat)
  case atStart => exact ⟨1, Nat.le_refl _, by omega, rfl, by rw [HJ1'.out], Below.refl _ _⟩
  case round =>
    obtain ⟨s, hs1, hs2, rfl, rfl, hb⟩ := hrel
    have HBO := hid hb
    have k2 : wr.cell? ⟨gv, 2, none⟩ = some (.slice a9 bs.length c9) := (HZ6.out.of_block (hb.block _ HZ6.out.lt)).cell (i := 2) (by omega)
    clear hb
    by_cases hlt : s < TT - 1
    · generalize hj : K.jnk m bs s = jv at *
      have HJV := hid hj
      clear hj
      generalize hwr : wr = w7 at *
      clear hwr
      have hsb : IntKind.i64.wrap ((TT : Int) - 1) = (TT : Int) - 1 := IntWalk.i64_in _ (by omega)
      have hsb2 : wrap64 ((TT : Int) - 1) = (TT : Int) - 1 := by rw [← IntWalk.i64_left]; exact hsb
      have hcm : (s : Int) < (TT : Int) - 1 := by omega
      obtain ⟨hsh, hsh2⟩ := HSH.out
      go_wp2
      clear k2 hsh hsh2 hsb hsb2 hcm
      go_loopw [11, 54] (fun l i wr => ∃ k : Nat, k ≤ bs.length ∧ i = .int .i64 k ∧ l = .bool (K.lf m s bs k) ∧ Below w7.heap.size w7 wr) (fun _ i _ => bs.length - (intOf i).toNat)
      case atStart => exact ⟨0, Nat.zero_le _, rfl, rfl, Below.refl _ _⟩
      case round =>
        obtain ⟨k, hk, rfl, rfl, hb⟩ := hrel
        have HBT := hid hb
        have HBW := hid (HBO.out.trans (hb.mono HBO.out.size))
        have k0 : wr.cell? ⟨gv, 0, none⟩ = some (.int .i64 (m : Int)) := (HZ6.out.of_block (HBW.out.block _ HZ6.out.lt)).cell (i := 0) (by omega)
        have hgv : gv < wr.heap.size := Nat.lt_of_lt_of_le HZ6.out.lt HBW.out.size
        clear hb
        by_cases hkl : k < bs.length
        · obtain ⟨b, off, rfl, z1, z2, z3⟩ := (HR6.out.stays HBW.out) k hkl
          have hib := HIB.out _ (List.getElem_mem hkl)
          have hkz := HKZ.out _ (List.getElem_mem hkl)
          have HLS := hid (HLK.out s k hkl)
          generalize bs[k] = br at *
          obtain ⟨x, y, z⟩ := br
          obtain ⟨g1, g2, g3, g4⟩ := hib
          simp only at g1 g2 g3 g4 z1 z2 z3 hkz
          obtain ⟨i, rfl⟩ : ∃ i : Nat, x = (i : Int) := ⟨x.toNat, by omega⟩
          obtain ⟨j, rfl⟩ : ∃ j : Nat, y = (j : Int) := ⟨y.toNat, by omega⟩
          have hix : (0 : Int) ≤ (k : Int) ∧ (k : Int) < (bs.length : Int) := by omega
          have hws : IntKind.i64.wrap ((m : Int) + (j : Int)) = ((m + j : Nat) : Int) := by rw [IntWalk.i64_in _ (by omega)]; rfl
          have HKO : Hid (K.out m s ((i : Int), (j : Int), z) = ((decide (z ≠ 2) && decide ((s / 2 ^ (m + j)) &&& 1 < (s / 2 ^ i) &&& 1)) || (decide (z ≠ 1) && decide ((s / 2 ^ i) &&& 1 < (s / 2 ^ (m + j)) &&& 1)))) := hid (by
            unfold K.out K.dg
            simp only [Int.toNat_natCast, Nat.and_one_is_mod])
          have HBA := hid (HBT.out.alloc HBT.out.size (.cells #[.int .i64 (i : Int), .int .i64 (j : Int), .int .i64 z] 63))
          have hmj : m + j ≤ 6 := by omega
          have hi6 : i ≤ 6 := by omega
          generalize m + j = M at *
          have hP1 : s / 2 ^ i ≤ s := Nat.div_le_self _ _
          have hP2 : s / 2 ^ M ≤ s := Nat.div_le_self _ _
          have hand1 := and_i64 (a := s / 2 ^ i) (b := 1) (by omega) (by decide)
          have hand2 := and_i64 (a := s / 2 ^ M) (b := 1) (by omega) (by decide)
          have hA1 : (s / 2 ^ i) &&& 1 ≤ 1 := Nat.and_le_right
          have hA2 : (s / 2 ^ M) &&& 1 ≤ 1 := Nat.and_le_right
          have hdv1 : (s : Int) / (2 : Int) ^ i = ((s / 2 ^ i : Nat) : Int) := by simp
          have hdv2 : (s : Int) / (2 : Int) ^ M = ((s / 2 ^ M : Nat) : Int) := by simp
          generalize s / 2 ^ i = P1 at *
          generalize s / 2 ^ M = P2 at *
          generalize P1 &&& 1 = A at *
          generalize P2 &&& 1 = B at *
          have hand1' : bits .and .i64 (P1 : Int) 1 = (A : Int) := hand1
          have hand2' : bits .and .i64 (P2 : Int) 1 = (B : Int) := hand2
          have hx1 : (0 : Int) ≤ (i : Int) ∧ (i : Int) ≤ 64 := by omega
          have hx2 : (0 : Int) ≤ (M : Int) ∧ (M : Int) ≤ 64 := by omega
          clear g1 g2 g3 g4 hand1 hand2
          go_wp2
          go_quiet (fail)
          have HBQ := hid (below_drewN HBA.out nq)
          clear hand1' hand2' hdv1 hdv2 hws hx1 hx2
          cases hlf : K.lf m s bs k with
          | true =>
            have HLF := hid hlf
            clear hlf
            have HN : Hid (K.lf m s bs (k + 1) = true) := hid (by rw [HLS.out, HLF.out]; rfl)
            go_wp2
            go_roundw
            case rel => exact ⟨k + 1, by omega, by go_num, by rw [HN.out], HBQ.out⟩
            case measure => simp [intOf]; omega
          | false =>
            have HLF := hid hlf
            clear hlf
            rcases hkz with rfl | rfl | rfl
            · have d2 : ((0 : Int) != 2) = true := by decide
              have d1 : ((0 : Int) != 1) = true := by decide
              rcases Nat.lt_trichotomy A B with e | e | e
              · have HQ1 := hid (decide_eq_false (show ¬ B < A by omega))
                have HQ2 := hid (decide_eq_true (show A < B by omega))
                have g1 : ¬ (B : Int) < (A : Int) := by omega
                have g2 : (A : Int) < (B : Int) := by omega
                clear e
                have HN : Hid (K.lf m s bs (k + 1) = true) := hid (by rw [HLS.out, HLF.out, HKO.out, HQ1.out, HQ2.out]; rfl)
                go_wp2
                go_roundw
                case rel => exact ⟨k + 1, by omega, by go_num, by rw [HN.out], HBQ.out⟩
                case measure => simp [intOf]; omega
              · have HQ1 := hid (decide_eq_false (show ¬ B < A by omega))
                have HQ2 := hid (decide_eq_false (show ¬ A < B by omega))
                have g1 : ¬ (B : Int) < (A : Int) := by omega
                have g2 : ¬ (A : Int) < (B : Int) := by omega
                clear e
                have HN : Hid (K.lf m s bs (k + 1) = false) := hid (by rw [HLS.out, HLF.out, HKO.out, HQ1.out, HQ2.out]; rfl)
                go_wp2
                go_roundw
                case rel => exact ⟨k + 1, by omega, by go_num, by rw [HN.out], HBQ.out⟩
                case measure => simp [intOf]; omega
              · have HQ1 := hid (decide_eq_true (show B < A by omega))
                have HQ2 := hid (decide_eq_false (show ¬ A < B by omega))
                have g1 : (B : Int) < (A : Int) := by omega
                have g2 : ¬ (A : Int) < (B : Int) := by omega
                clear e
                have HN : Hid (K.lf m s bs (k + 1) = true) := hid (by rw [HLS.out, HLF.out, HKO.out, HQ1.out, HQ2.out]; rfl)
                go_wp2
                go_roundw
                case rel => exact ⟨k + 1, by omega, by go_num, by rw [HN.out], HBQ.out⟩
                case measure => simp [intOf]; omega
            · have d2 : ((1 : Int) != 2) = true := by decide
              have d1 : ((1 : Int) != 1) = false := by decide
              rcases Nat.lt_trichotomy A B with e | e | e
              · have HQ1 := hid (decide_eq_false (show ¬ B < A by omega))
                have HQ2 := hid (decide_eq_true (show A < B by omega))
                have g1 : ¬ (B : Int) < (A : Int) := by omega
                have g2 : (A : Int) < (B : Int) := by omega
                clear e
                have HN : Hid (K.lf m s bs (k + 1) = false) := hid (by rw [HLS.out, HLF.out, HKO.out, HQ1.out, HQ2.out]; rfl)
                go_wp2
                go_roundw
                case rel => exact ⟨k + 1, by omega, by go_num, by rw [HN.out], HBQ.out⟩
                case measure => simp [intOf]; omega
              · have HQ1 := hid (decide_eq_false (show ¬ B < A by omega))
                have HQ2 := hid (decide_eq_false (show ¬ A < B by omega))
                have g1 : ¬ (B : Int) < (A : Int) := by omega
                have g2 : ¬ (A : Int) < (B : Int) := by omega
                clear e
                have HN : Hid (K.lf m s bs (k + 1) = false) := hid (by rw [HLS.out, HLF.out, HKO.out, HQ1.out, HQ2.out]; rfl)
                go_wp2
                go_roundw
                case rel => exact ⟨k + 1, by omega, by go_num, by rw [HN.out], HBQ.out⟩
                case measure => simp [intOf]; omega
              · have HQ1 := hid (decide_eq_true (show B < A by omega))
                have HQ2 := hid (decide_eq_false (show ¬ A < B by omega))
                have g1 : (B : Int) < (A : Int) := by omega
                have g2 : ¬ (A : Int) < (B : Int) := by omega
                clear e
                have HN : Hid (K.lf m s bs (k + 1) = true) := hid (by rw [HLS.out, HLF.out, HKO.out, HQ1.out, HQ2.out]; rfl)
                go_wp2
                go_roundw
                case rel => exact ⟨k + 1, by omega, by go_num, by rw [HN.out], HBQ.out⟩
                case measure => simp [intOf]; omega
            · have d2 : ((2 : Int) != 2) = false := by decide
              have d1 : ((2 : Int) != 1) = true := by decide
              rcases Nat.lt_trichotomy A B with e | e | e
              · have HQ1 := hid (decide_eq_false (show ¬ B < A by omega))
                have HQ2 := hid (decide_eq_true (show A < B by omega))
                have g1 : ¬ (B : Int) < (A : Int) := by omega
                have g2 : (A : Int) < (B : Int) := by omega
                clear e
                have HN : Hid (K.lf m s bs (k + 1) = true) := hid (by rw [HLS.out, HLF.out, HKO.out, HQ1.out, HQ2.out]; rfl)
                go_wp2
                go_roundw
                case rel => exact ⟨k + 1, by omega, by go_num, by rw [HN.out], HBQ.out⟩
                case measure => simp [intOf]; omega
              · have HQ1 := hid (decide_eq_false (show ¬ B < A by omega))
                have HQ2 := hid (decide_eq_false (show ¬ A < B by omega))
                have g1 : ¬ (B : Int) < (A : Int) := by omega
                have g2 : ¬ (A : Int) < (B : Int) := by omega
                clear e
                have HN : Hid (K.lf m s bs (k + 1) = false) := hid (by rw [HLS.out, HLF.out, HKO.out, HQ1.out, HQ2.out]; rfl)
                go_wp2
                go_roundw
                case rel => exact ⟨k + 1, by omega, by go_num, by rw [HN.out], HBQ.out⟩
                case measure => simp [intOf]; omega
              · have HQ1 := hid (decide_eq_true (show B < A by omega))
                have HQ2 := hid (decide_eq_false (show ¬ A < B by omega))
                have g1 : (B : Int) < (A : Int) := by omega
                have g2 : ¬ (A : Int) < (B : Int) := by omega
                clear e
                have HN : Hid (K.lf m s bs (k + 1) = false) := hid (by rw [HLS.out, HLF.out, HKO.out, HQ1.out, HQ2.out]; rfl)
                go_wp2
                go_roundw
                case rel => exact ⟨k + 1, by omega, by go_num, by rw [HN.out], HBQ.out⟩
                case measure => simp [intOf]; omega
        · have hke : k = bs.length := by omega
          subst hke
          have HJN1 : Hid (K.jnk m bs (s + 1) = (jv && K.lf m s bs bs.length)) := hid (by rw [HJK.out s hs1, HJV.out])
          generalize K.lf m s bs bs.length = lf at *
          have hlt64 : (s : Int) + 1 ≤ 64 := by omega
          cases jv with
          | true =>
            go_wp2
            go_roundw
            case rel => exact ⟨s + 1, by omega, by omega, by go_num, by rw [HJN1.out]; rfl, HBW.out⟩
            case measure => simp [intOf]; omega
          | false =>
            go_wp2
            go_roundw
            case rel => exact ⟨s + 1, by omega, by omega, by go_num, by rw [HJN1.out]; rfl, HBW.out⟩
            case measure => simp [intOf]; omega
    · have hse : s = TT - 1 := by omega
      subst hse
      have HJF : Hid (K.jnk m bs (TT - 1) = st) := hid HJN.out
      rw [HJF.out]
      have hss : (st != st) = false := by simp
      have hsb : IntKind.i64.wrap ((TT : Int) - 1) = (TT : Int) - 1 := IntWalk.i64_in _ (by omega)
      have hsb2 : wrap64 ((TT : Int) - 1) = (TT : Int) - 1 := by rw [← IntWalk.i64_left]; exact hsb
      have hcm : ¬ ((TT - 1 : Nat) : Int) < (TT : Int) - 1 := by omega
      generalize TT - 1 = s9 at *
      have HZR := hid (HZ6.out.of_block (HBO.out.block _ HZ6.out.lt))
      have HOR := hid (HO6.out.of_block (HBO.out.block _ HO6.out.lt))
      have HRR := hid (HR6.out.stays HBO.out)
      have HJR1 := hid (HJ16.out.stays2 HBO.out)
      have HJR2 := hid (HJ26.out.stays2 HBO.out)
      have HBR := hid (HB6.out.trans (HBO.out.mono HB6.out.size))
      clear k2 HZ6 HO6 HR6 HJ16 HJ26 HB6 HBO HLK HJK HJ1' HIB HKZ HJN HJF
      generalize hle : K.lse m n bs = le at *
      have HLE := hid hle
      clear hle
      obtain ⟨hsh, hsh2⟩ := HSH.out
      go_upto_region 19 with (fail)
      clear hsh hsh2 hsb hsb2 hcm HSH
      have k0 : wr.cell? ⟨gv, 0, none⟩ = some (.int .i64 (m : Int)) := HZR.out.cell (i := 0) (by omega)
      have k1 : wr.cell? ⟨gv, 1, none⟩ = some (.int .i64 (n : Int)) := HZR.out.cell (i := 1) (by omega)
      have k2 : wr.cell? ⟨gv, 2, none⟩ = some (.slice a9 bs.length c9) := HZR.out.cell (i := 2) (by omega)
      have o0 : wr.cell? ⟨g7, 0, none⟩ = some (.slice r1 R.length s1) := HOR.out.cell (i := 0) (by omega)
      have o1 : wr.cell? ⟨g7, 1, none⟩ = some (.slice r2 C.length s2) := HOR.out.cell (i := 1) (by omega)
      cases st with
      | true =>
        have hl14 : le = 14 := HLSE.out
        subst hl14
        obtain ⟨rfl, rfl⟩ := HMD.out.1 (by rw [HLE.out]; decide)
        simp only [List.length_nil] at o0 o1
        go_wp2_with fail
        refine (HWK.out _).mono ?_
        rintro e w12 ⟨rfl, hb12⟩
        have HBG := hid (HBR.out.trans (hb12.mono HBR.out.size))
        clear hb12
        go_wp2
        go_ret
        exact ⟨rfl, HBG.out⟩
      | false =>
        have hl0 : le = 0 := HLSE.out
        subst hl0
        obtain ⟨h01, h02, h6, h66, hv0⟩ := HMD.out.2 HLE.out
        obtain ⟨hRm, hCn, hsm, hkl⟩ := HVM.out R C hv0
        have HX1 := hid h01
        have HX2 := hid h02
        have HVR := hid (HVF.out a9 c9 r1 s1 R r2 s2 C wr (by omega) (by omega) HRR.out HJR1.out HJR2.out)
        rw [hv0] at HVR
        have dl1 : ((R.length : Int) != (m : Int)) = false := by rw [hRm]; simp
        have dl2 : ((C.length : Int) != (n : Int)) = false := by rw [hCn]; simp
        have hR1 : 0 < R.length := by omega
        have hC1 : 0 < C.length := by omega
        obtain ⟨b1, o1', rfl, _⟩ := HJR1.out 0 hR1
        obtain ⟨b2, o2', rfl, _⟩ := HJR2.out 0 hC1
        have HSM := hid hsm
        have HKL := hid hkl
        have HRM := hid (show R.length = m ∧ C.length = n from ⟨hRm, hCn⟩)
        clear h01 h02 hv0 hsm hkl hRm hCn HMD HVF HVM
        go_wp2_with fail
        refine HVR.out.mono ?_
        rintro e w1 ⟨rfl, hb⟩
        obtain ⟨i0, hi, hz0, hz1, hz2⟩ := info_parts (show (Try.prog.info? 3).map (fun i => (i.zero, i.size, i.bytes)) = some (some (.int .i64 0), 1, 8) by kernel_rfl)
        have HR11 := hid (HJR1.out.stays2 hb)
        have HR21 := hid (HJR2.out.stays2 hb)
        have HRK1 := hid (HRR.out.stays hb)
        have HZ1 := hid (HZR.out.of_block (hb.block _ HZR.out.lt))
        have HO1 := hid (HOR.out.of_block (hb.block _ HOR.out.lt))
        have HB1 := hid (HBR.out.trans (hb.mono HBR.out.size))
        have HCS := hid (fun W (hW : Below w1.heap.size w1 W) => show W.cell? ⟨g7, 0, none⟩ = some (.slice (some ⟨b1, o1', none⟩) R.length s1) ∧ W.cell? ⟨g7, 1, none⟩ = some (.slice (some ⟨b2, o2', none⟩) C.length s2) from
          ⟨(HO1.out.of_block (hW.block _ HO1.out.lt)).cell (i := 0) (by omega), (HO1.out.of_block (hW.block _ HO1.out.lt)).cell (i := 1) (by omega)⟩)
        clear hb k0 k1 k2 o0 o1 HJR1 HJR2 HRR HZR HOR HBR HVR
        have HFA := hid (fun (W : World) (hb : Below w1.heap.size w1 W) (hW : W.heap = (w1.alloc (.cells #[] 3)).heap) => show W.ownsRow w1.heap.size 3 1 (.slice (some ⟨w1.heap.size, 0, none⟩) 0 0) 0 [] ∧ (R.map (Value.int .i64)).length = R.length * 1 ∧ (∀ j u, (R.map (Value.int .i64))[j]? = some u → W.cell? (Addr.add ⟨b1, o1', none⟩ j) = some u) ∧ (∀ u ∈ R.map (Value.int .i64), u.oneCell' = true) ∧ 0 + R.length ≤ 1000 ∧ w1.heap.size ≤ W.heap.size from
          ⟨⟨rfl, Or.inr ⟨w1.heap.size, 0, #[], rfl, Nat.le_refl _, by rw [hW]; exact heap_oneI w1 _, Nat.le_refl _, Nat.zero_le _, rfl, rfl⟩⟩, by simp, (HR11.out.stays2 hb).cellsI, (fun u hu => by obtain ⟨x, _, rfl⟩ := List.mem_map.1 hu; rfl), by omega, hb.size⟩)
        have HFB := hid (fun (W : World) (v1 : Value) (hb : Below w1.heap.size w1 W) (ho : W.ownsRow w1.heap.size 3 1 v1 (0 + R.length) ([] ++ R.map (Value.int .i64))) => show W.ownsRow w1.heap.size 3 1 v1 (0 + R.length) ([] ++ R.map (Value.int .i64)) ∧ (C.map (Value.int .i64)).length = C.length * 1 ∧ (∀ j u, (C.map (Value.int .i64))[j]? = some u → W.cell? (Addr.add ⟨b2, o2', none⟩ j) = some u) ∧ (∀ u ∈ C.map (Value.int .i64), u.oneCell' = true) ∧ 0 + R.length + C.length ≤ 1000 ∧ w1.heap.size ≤ W.heap.size from
          ⟨ho, by simp, (HR21.out.stays2 hb).cellsI, (fun u hu => by obtain ⟨x, _, rfl⟩ := List.mem_map.1 hu; rfl), by omega, hb.size⟩)
        have HSZ : Hid (w1.heap.size ≤ (w1.alloc (.cells #[] 3)).heap.size) := hid (by simp)
        have HBK : Hid (∀ k, k < w1.heap.size → (w1.alloc (.cells #[] 3)).heap[k]? = w1.heap[k]?) := hid (fun k hk => Below.heap_alloc _ _ _ hk)
        have HCV := hid (fun (W : World) (v : Value) (h : W.ownsRow w1.heap.size 3 1 v (0 + R.length + C.length) (([] ++ R.map (Value.int .i64)) ++ C.map (Value.int .i64))) => show RowI W w1.heap.size v (R ++ C) from by
          unfold RowI
          rw [show (R ++ C).length = 0 + R.length + C.length by simp, List.map_append]
          exact h)
        have hd9 : Hid (Below w1.heap.size w1 w1.drew) := hid (Below.refl _ _).drew
        go_wp2
        obtain ⟨z0, z1⟩ := HCS.out _ hd9.out
        go_region_held3 (fun W => W.cell? ⟨g7, 0, none⟩ = some (.slice (some ⟨b1, o1', none⟩) R.length s1) ∧ W.cell? ⟨g7, 1, none⟩ = some (.slice (some ⟨b2, o2', none⟩) C.length s2)) (first | exact HCS.out _ (Hid.out (by assumption)) | exact HCS.out _ (hd9.out.alloc hd9.out.size _) | exact HCS.out _ hb4.out | exact HCS.out _ hb6.out | go_keep) (first | (refine step_append_n rfl (.tmp 140) (.tmp 142) 40 (by rfl) 3 i0 (.int .i64 0) 1 Try.underlying40 hi hz0 hz1 (by rw [hz2]; decide) rfl (by decide) w1.heap.size (.slice (some ⟨w1.heap.size, 0, none⟩) 0 0) 0 [] (by simp [Act.eval]) ⟨b1, o1', none⟩ R.length s1 (R.map (Value.int .i64)) (by simp [Act.eval]) (HFA.out _ (by exact ⟨rfl, rfl, rfl, HSZ.out, HBK.out⟩) rfl) ?_; intro v1 wa hw1 hg1 _; have hb4 := hid (Below.grown (show Below w1.heap.size w1 _ by exact ⟨rfl, rfl, rfl, HSZ.out, HBK.out⟩) hg1 (by exact HSZ.out) (fun q hq => by cases hq; exact Nat.le_refl _)); have ho1 := hid hw1; clear hw1 hg1) | (refine step_append_n rfl (.tmp 143) (.tmp 145) 40 (by rfl) 3 i0 (.int .i64 0) 1 Try.underlying40 hi hz0 hz1 (by rw [hz2]; decide) rfl (by decide) w1.heap.size v1 (0 + R.length) ([] ++ R.map (Value.int .i64)) (by simp [Act.eval]) ⟨b2, o2', none⟩ C.length s2 (C.map (Value.int .i64)) (by simp [Act.eval]) (HFB.out _ v1 (by exact hb4.out) (by exact ho1.out)) ?_; intro v2 wb hw2 hg2 _; have hb6 := hid (Below.grown (show Below w1.heap.size w1 _ from hb4.out) hg2 (by exact hb4.out.size) (fun q hq => (World.ownsRow.lt ho1.out q hq).1)); have ho2 := hid (HCV.out _ _ hw2); clear hw2 hg2; obtain ⟨a5, c5, rfl, hrd⟩ := ho2.out.rd; have hrd2 := hid hrd; clear hrd))
        all_goals
          obtain ⟨zs, hzs⟩ : ∃ zs, zs = R ++ C := ⟨_, rfl⟩
          have HZL : Hid (zs.length = R.length + C.length) := hid (by rw [hzs]; exact List.length_append)
          have H01 : Hid (∀ x ∈ zs, x = 0 ∨ x = 1) := hid (fun x hx => by
            rw [hzs] at hx
            rcases List.mem_append.1 hx with hx | hx
            · exact HX1.out x hx
            · exact HX2.out x hx)
          have HBW := hid (HB1.out.trans (hb6.out.mono HB1.out.size))
          have HRKB := hid (HRK1.out.stays hb6.out)
          have HZB := hid (HZ1.out.of_block (hb6.out.block _ HZ1.out.lt))
          simp only [List.length_append]
          rw [← hzs] at hrd2 HSM HKL
          have hNN : 2 ≤ R.length + C.length ∧ R.length + C.length ≤ 12 := by omega
          have HZM : Hid (zs.length = m + n) := hid (by rw [HZL.out, HRM.out.1, HRM.out.2])
          clear ho2 hzs HCV ho1 hb4 hd9 z0 z1 HFA HFB HSZ HBK hb6
          generalize R.length + C.length = N2 at *
          have HRZ := hid (show RdI wb a5 zs from hrd2.out)
          have HEQ := hid (equal_any a5 c5 zs wb (by rw [HZL.out]; unfold maxLen; omega) HRZ.out)
          have HKE := hid (HKP.out a9 c9 a5 c5 zs wb HRKB.out (by rw [HZM.out]; exact HND.out) HRZ.out)
          rw [HSM.out, HZL.out] at HEQ
          rw [HKL.out, HZL.out] at HKE
          have k0 : wb.cell? ⟨gv, 0, none⟩ = some (.int .i64 (m : Int)) := HZB.out.cell (i := 0) (by omega)
          have k1 : wb.cell? ⟨gv, 1, none⟩ = some (.int .i64 (n : Int)) := HZB.out.cell (i := 1) (by omega)
          have k2 : wb.cell? ⟨gv, 2, none⟩ = some (.slice a9 bs.length c9) := HZB.out.cell (i := 2) (by omega)
          clear HKP
          go_wp2
          go_loop [149] (fun i => ∃ k : Nat, k ≤ N2 ∧ i = .int .i64 k) (fun i => N2 - (intOf i).toNat)
          case atStart => exact ⟨0, Nat.zero_le _, rfl⟩
          case round =>
            obtain ⟨k, hk, rfl⟩ := hrel
            by_cases hlt : k < N2
            · have hltz : k < zs.length := by rw [HZL.out]; exact hlt
              obtain ⟨b5, o5, rfl, ck⟩ := HRZ.out k hltz
              have hx01 := H01.out _ (List.getElem_mem hltz)
              generalize zs[k] = x at *
              have hix : (0 : Int) ≤ (k : Int) ∧ (k : Int) < (N2 : Int) := by omega
              rcases hx01 with rfl | rfl
              · go_wp2
                go_round
                case rel => exact ⟨k + 1, by omega, by go_num⟩
                case measure => simp [intOf]; omega
              · go_wp2
                go_round
                case rel => exact ⟨k + 1, by omega, by go_num⟩
                case measure => simp [intOf]; omega
            · have hke : k = N2 := by omega
              subst hke
              go_wp2_with fail
              refine HEQ.out.mono ?_
              rintro e w13 ⟨rfl, rfl⟩
              go_wp2_with fail
              refine HKE.out.mono ?_
              rintro e w14 ⟨rfl, hb14⟩
              have HB14 := hid (HBW.out.trans (hb14.mono HBW.out.size))
              clear hb14
              go_wp2_with fail
              refine (HWK.out _).mono ?_
              rintro e w15 ⟨rfl, hb15⟩
              have HB15 := hid (HB14.out.trans (hb15.mono HB14.out.size))
              clear hb15
              go_wp2
              go_ret
              exact ⟨rfl, HB15.out⟩
end Go.Proofs.Ytmbfpekcfeeifaa
