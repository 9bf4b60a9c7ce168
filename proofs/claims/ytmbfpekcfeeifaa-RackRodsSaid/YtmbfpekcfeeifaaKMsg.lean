/- Package rack: the walks of Missing and Trim. -/
import Derived.Test.YtmbfpekcfeeifaaKEvw
import Derived.Test.YtmbfpekcfeeifaaKCnI
namespace Go.Proofs.Ytmbfpekcfeeifaa
open Go.RowKit

theorem K.jo_in (m : Nat) (rods : List Br) : ∀ s : (Nat → Nat → Bool) × List Int × Nat, (∀ x ∈ s.2.1, ∃ i : Nat, x = (i : Int) ∧ i < s.2.2) → ∀ x ∈ (rods.foldl (K.jst m) s).2.1, ∃ i : Nat, x = (i : Int) ∧ i < s.2.2 + rods.length := by
  induction rods with
  | nil => intro s h; exact h
  | cons b l ih =>
    intro s h x hx
    rw [List.foldl_cons] at hx
    have h1 : ∀ x ∈ (K.jst m s b).2.1, ∃ i : Nat, x = (i : Int) ∧ i < (K.jst m s b).2.2 := fun y hy => by
      show ∃ i : Nat, y = (i : Int) ∧ i < s.2.2 + 1
      have hy' : y ∈ (if K.R s.1 b.1.toNat (m + b.2.1.toNat) = true then s.2.1 else s.2.1 ++ [(s.2.2 : Int)]) := hy
      split at hy'
      · obtain ⟨i, e, hi⟩ := h y hy'; exact ⟨i, e, by omega⟩
      · rcases List.mem_append.1 hy' with hy' | hy'
        · obtain ⟨i, e, hi⟩ := h y hy'; exact ⟨i, e, by omega⟩
        · exact ⟨s.2.2, List.mem_singleton.1 hy', by omega⟩
    obtain ⟨i, e, hi⟩ := ih _ h1 x hx
    have h2 : (K.jst m s b).2.2 = s.2.2 + 1 := rfl
    rw [h2] at hi
    exact ⟨i, e, by rw [List.length_cons]; omega⟩
/-- The rods with these indices. -/
def K.pick (rods : List Br) (L : List Int) : List Br := L.map fun i => rods.getD i.toNat (0, 0, 0)
theorem K.pick_take {rods : List Br} {L : List Int} {k i : Nat} (h : k < L.length) (he : L[k] = (i : Int)) (hi : i < rods.length) : K.pick rods (L.take (k + 1)) = K.pick rods (L.take k) ++ [rods[i]] := by
  unfold K.pick
  rw [List.take_succ_eq_append_getElem h, List.map_append, List.map_singleton, he]
  simp [hi]
theorem K.pick_len (rods : List Br) (L : List Int) : (K.pick rods L).length = L.length := by unfold K.pick; rw [List.length_map]
/-- The rods that are missing. -/
noncomputable def K.msg (m n : Int) (bs : List Br) : List Br := if K.chr m n bs = 0 then K.pick (K.evs n.toNat m.toNat) (K.jo m.toNat (K.leads m.toNat bs) (K.evs n.toNat m.toNat)).2.1 else []
/-- The fewest braces of a stiff rack. -/
noncomputable def K.trm (m n : Int) (bs : List Br) : List Int := if K.chr m n bs = 0 ∧ K.stf m n bs = true then (K.jo m.toNat (K.leads m.toNat []) bs).2.1 else []
noncomputable def K.tre (m n : Int) (bs : List Br) : Int := if K.chr m n bs = 0 then (if K.stf m n bs = true then 0 else 22) else K.chr m n bs

set_option maxHeartbeats 4000000 in
set_option maxRecDepth 100000 in
theorem missing_any (m n : Int) (a : Option Addr) (c : Nat) (bs : List Br) (w : World) (hm : bs.length ≤ maxLen) (hR : RdB w a bs) :
    Calls Try.prog 33 #[K.rk m n a bs.length c] w fun e w' => ∃ v, e = .returned (.tuple #[v, .int .i64 (K.chr m n bs)]) ∧ RowB w' w.heap.size v (K.msg m n bs) ∧ Below w.heap.size w w' := by
  obtain ⟨HB0, hbx⟩ := box_rack w m n a c bs hR
  have HBX := hid hbx
  have HCK := hid (checkRods_any m n a c bs _ hm (hR.stays HB0.out))
  clear hbx hR
  by_cases h0 : K.chr m n bs = 0
  · obtain ⟨p, q, rfl, rfl, hok⟩ := K.chk_ok (K.chr_zero h0).1
    have HM : Hid (K.msg p q bs = K.pick (K.evs q p) (K.jo p (K.leads p bs) (K.evs q p)).2.1) := hid (by unfold K.msg; rw [if_pos h0]; simp)
    have hpq : p ≤ 6 ∧ q ≤ 6 := ⟨hok.m6, hok.n6⟩
    have HEL : Hid ((K.evs q p).length ≤ 36) := hid (by rw [K.evs_len]; exact Nat.le_trans (Nat.mul_le_mul hpq.1 hpq.2) (by decide))
    have HEV := hid (fun W hr => everywhere_any p q a c bs W hpq.1 hpq.2 hr)
    have HIN := hid (fun x hx => K.jo_in p (K.evs q p) (K.leads p bs, [], 0) (fun x hx => by cases hx) x hx)
    have HLL := hid (K.jo_len p (K.evs q p) (K.leads p bs, [], 0))
    have HJN := hid (fun W ra rc hr hr2 => joining_any p q a c bs ra rc (K.evs q p) W hm hr hpq.1 hpq.2 hok.inb (by have := HEL.out; omega) hr2 K.evs_inb)
    obtain ⟨i0, hi, hz0, hz1, hz2⟩ := info_parts (show (Try.prog.info? 63).map (fun i => (i.zero, i.size, i.bytes)) = some (some (.agg #[.int .i64 0, .int .i64 0, .int .i64 0]), 3, 24) by kernel_rfl)
    rw [h0] at HCK
    rw [HM.out, h0]
    unfold K.LsI K.jo at HJN
    unfold K.jo
    clear h0 hok HM
    generalize (List.foldl (K.jst p) (K.leads p bs, [], 0) (K.evs q p)).2.1 = L at *
    generalize K.evs q p = rods at *
    have hL36 : L.length ≤ 36 := by
      have h1 : L.length ≤ rods.length := by simpa using HLL.out
      have := HEL.out
      omega
    unfold K.rk at HCK HEV HJN ⊢
    unfold maxLen at hm
    go_enter Try.func33, Try.ntmps33
    go_wp2_with fail
    refine HCK.out.mono ?_
    rintro e w1 ⟨rfl, hb⟩
    obtain ⟨k0, k1, k2, hr, hbw, hsz⟩ := HBX.out w1 hb
    have HBZ := hid hb
    have HE1 := hid (HEV.out w1 hr)
    clear hb hr hbw HEV
    go_wp2_with fail
    refine HE1.out.mono ?_
    rintro e w2 ⟨v, rfl, hrow, hb⟩
    have HROD := hid hrow
    obtain ⟨ra, rc, rfl, hrd⟩ := hrow.rd
    have HBY := hid (HBZ.out.trans (hb.mono HBZ.out.size))
    obtain ⟨k0, k1, k2, hr, hbw, hsz⟩ := HBX.out w2 HBY.out
    have HJ2 := hid (HJN.out w2 ra rc hr hrd)
    have HRD := hid hrd
    clear hrow hrd hb hr hbw HJN HE1
    go_wp2_with fail
    refine HJ2.out.mono ?_
    rintro e w3 ⟨rl, sl, rfl, hrl, hb⟩
    have HRL := hid hrl
    have HRD3 := hid (HRD.out.stays hb)
    have HB3 := hid (HB0.out.trans ((HBY.out.trans (hb.mono HBY.out.size)).mono HB0.out.size))
    clear hrl hb HRD HJ2 HBX k0 k1 k2 hsz
    go_wp2
    go_loopw [6, 20] (fun v i wr => ∃ k : Nat, k ≤ L.length ∧ i = .int .i64 k ∧ RowB wr w3.heap.size v (K.pick rods (L.take k)) ∧ Below w3.heap.size w3 wr) (fun _ i _ => L.length - (intOf i).toNat)
    case atStart => exact ⟨0, Nat.zero_le _, rfl, World.ownsRow_nil _ _ _ _, Below.refl _ _⟩
    case round =>
      obtain ⟨k, hk, rfl, hrow, hb⟩ := hrel
      have HROW := hid hrow
      have HB := hid hb
      clear hrow hb
      by_cases hlt : k < L.length
      · obtain ⟨bl, ol, rfl, cl⟩ := (HRL.out.stays2 HB.out) k hlt
        obtain ⟨i, he, hil⟩ := HIN.out _ (List.getElem_mem hlt)
        have hir : i < rods.length := by simpa using hil
        rw [he] at cl
        obtain ⟨b, off, rfl, c1, c2, c3⟩ := (HRD3.out.stays HB.out) i hir
        have HPK := hid (K.pick_take hlt he hir)
        have HPL := hid (show (K.pick rods (L.take k)).length ≤ 60 by
          rw [K.pick_len, List.length_take]
          have h1 : L.length ≤ rods.length := by simpa using HLL.out
          have := HEL.out
          omega)
        have hpl := HPL.out
        generalize rods[i] = br at *
        obtain ⟨x, y, z⟩ := br
        simp only at c1 c2 c3
        generalize hP1 : K.pick rods (L.take (k + 1)) = P1 at *
        have HP1 := hid hP1
        clear hP1
        generalize K.pick rods (L.take k) = P0 at *
        have HM1 : Hid (P0.length + 1 ≤ maxLen) := hid (by unfold maxLen; omega)
        have HM2 : Hid ((P0.length + 1) * 24 ≤ 140737488355328) := hid (by omega)
        have hix : (0 : Int) ≤ (k : Int) ∧ (k : Int) < (L.length : Int) := by omega
        have hix2 : (0 : Int) ≤ (i : Int) ∧ (i : Int) < (rods.length : Int) := by omega
        clear he hil hpl
        go_wp2_with (at_builtin; refine wpList_append_own _ rfl _ _ 22 rfl w3.heap.size 63 i0 (.agg #[.int .i64 0, .int .i64 0, .int .i64 0]) 3 24 Try.underlying22 hi hz0 hz1 hz2 rfl (by decide) _ _ _ rfl (World.ownsRow.alloc HROW.out _) ⟨wr.heap.size, 0, none⟩ 1 1 [.int .i64 x, .int .i64 y, .int .i64 z] rfl rfl ?c1 ?c2 HM1.out HM2.out ?c5 ?_)
        case c1 =>
          intro i u hi
          match i, hi with
          | 0, hi => simp at hi; subst hi; rw [show Addr.add ⟨wr.heap.size, 0, none⟩ 0 = ⟨wr.heap.size, 0, none⟩ from rfl, World.cell?_alloc_at _ _ _ _ rfl]; rfl
          | 1, hi => simp at hi; subst hi; rw [show Addr.add ⟨wr.heap.size, 0, none⟩ 1 = ⟨wr.heap.size, 1, none⟩ from rfl, World.cell?_alloc_at _ _ _ _ rfl]; rfl
          | 2, hi => simp at hi; subst hi; rw [show Addr.add ⟨wr.heap.size, 0, none⟩ 2 = ⟨wr.heap.size, 2, none⟩ from rfl, World.cell?_alloc_at _ _ _ _ rfl]; rfl
        case c2 => intro u hu; simp at hu; rcases hu with rfl | rfl | rfl <;> rfl
        case c5 => exact Nat.le_trans HB.out.size (by simp)
        intro v' w9 hown' hgrow _
        have HB9 := hid (Below.grown (HB.out.alloc HB.out.size (.cells #[.int .i64 x, .int .i64 y, .int .i64 z] 63)) hgrow (by simp; have := HB.out.size; omega) (fun q hq => (World.ownsRow.lt HROW.out q hq).1))
        have HO9 : Hid (RowB w9 w3.heap.size v' P1) := hid (by
          rw [HPK.out]
          unfold RowB
          rw [List.length_append, brCells_snoc]
          exact hown')
        clear hown' hgrow
        go_wp2
        go_roundw
        case rel => exact ⟨k + 1, by omega, by go_num, by rw [HP1.out]; exact HO9.out, HB9.out⟩
        case measure => simp [intOf]; omega
      · have hke : k = L.length := by omega
        subst hke
        rw [List.take_length] at HROW
        have HBE := hid (HB3.out.trans (HB.out.mono HB3.out.size))
        have HRE := hid (HROW.out.mono HB3.out.size)
        clear HROW
        go_wp2
        go_ret2
        exact ⟨_, rfl, HRE.out, HBE.out⟩
  · have hne : (K.chr m n bs != 0) = true := by simpa using h0
    have HRS : Hid (K.msg m n bs = []) := hid (by unfold K.msg; rw [if_neg h0])
    rw [HRS.out]
    generalize K.chr m n bs = err at *
    clear h0 hm
    unfold K.rk at HCK ⊢
    go_enter Try.func33, Try.ntmps33
    go_wp2_with fail
    refine HCK.out.mono ?_
    rintro e w1 ⟨rfl, hb⟩
    have HBW := hid (HB0.out.trans (hb.mono HB0.out.size))
    clear hb
    go_wp2
    go_ret2
    exact ⟨_, rfl, World.ownsRow_nil _ _ _ _, HBW.out⟩

set_option maxHeartbeats 4000000 in
set_option maxRecDepth 100000 in
theorem trim_any (m n : Int) (a : Option Addr) (c : Nat) (bs : List Br) (w : World) (hm : bs.length ≤ maxLen) (hR : RdB w a bs) :
    Calls Try.prog 34 #[K.rk m n a bs.length c] w (K.LsE (K.trm m n bs) (K.tre m n bs) w) := by
  obtain ⟨HB0, hbx⟩ := box_rack w m n a c bs hR
  have HBX := hid hbx
  have HCK := hid (checkRods_any m n a c bs _ hm (hR.stays HB0.out))
  clear hbx hR
  by_cases h0 : K.chr m n bs = 0
  · have hc0 := (K.chr_zero h0).1
    obtain ⟨p, q, rfl, rfl, hok⟩ := K.chk_ok hc0
    have hpq : p ≤ 6 ∧ q ≤ 6 := ⟨hok.m6, hok.n6⟩
    have hfew := hok.few
    have HST : Hid (K.stf p q bs = decide ((K.gsv p q bs).length = 1)) := hid (by unfold K.stf; rw [if_pos hc0]; simp)
    have HT : Hid (K.trm p q bs = (if K.stf p q bs = true then (K.jo p (K.leads p []) bs).2.1 else []) ∧ K.tre p q bs = (if K.stf p q bs = true then 0 else 22)) := hid ⟨by unfold K.trm; rw [h0]; simp, by unfold K.tre; rw [if_pos h0]⟩
    have HS1 := hid (fun W hr => isStiff_any p q a c bs W hm hr hpq.1 hpq.2 hok.inb)
    rw [← HST.out] at HS1
    have HJN := hid (fun W hr2 => joining_any p q none 0 [] a c bs W (Nat.zero_le _) (fun k hk => absurd hk (Nat.not_lt_zero _)) hpq.1 hpq.2 (fun b hb => by cases hb) (by omega) hr2 hok.inb)
    rw [h0] at HCK
    rw [HT.out.1, HT.out.2]
    clear h0 hc0 hok HT HST
    unfold K.LsI at HJN
    generalize (K.jo p (K.leads p []) bs).2.1 = L at *
    unfold K.rk at HCK HS1 HJN ⊢
    unfold maxLen at hm
    cases hst : K.stf p q bs with
    | false =>
      rw [hst] at HS1
      clear hst
      simp only [Bool.false_eq_true, if_false]
      go_enter Try.func34, Try.ntmps34
      go_wp2_with fail
      refine HCK.out.mono ?_
      rintro e w1 ⟨rfl, hb⟩
      obtain ⟨k0, k1, k2, hr, hbw, hsz⟩ := HBX.out w1 hb
      have HE1 := hid (HS1.out w1 hr)
      have HBW := hid hbw
      clear hb hr hbw
      go_wp2_with fail
      refine HE1.out.mono ?_
      rintro e w2 ⟨rfl, hb⟩
      have HB2 := hid (HBW.out.trans (hb.mono HBW.out.size))
      clear hb
      go_wp2
      go_ret2
      exact ⟨_, _, rfl, (fun k hk => absurd hk (Nat.not_lt_zero _)), HB2.out⟩
    | true =>
      rw [hst] at HS1
      clear hst
      simp only [if_true]
      go_enter Try.func34, Try.ntmps34
      go_wp2_with fail
      refine HCK.out.mono ?_
      rintro e w1 ⟨rfl, hb⟩
      obtain ⟨k0, k1, k2, hr, hbw, hsz⟩ := HBX.out w1 hb
      have HE1 := hid (HS1.out w1 hr)
      have HBZ := hid hb
      clear hb hr hbw
      go_wp2_with fail
      refine HE1.out.mono ?_
      rintro e w2 ⟨rfl, hb⟩
      have HBY := hid (HBZ.out.trans (hb.mono HBZ.out.size))
      obtain ⟨k0, k1, k2, hr, hbw, hsz⟩ := HBX.out w2 HBY.out
      have HJ2 := hid (HJN.out w2 hr)
      have HB2 := hid hbw
      clear hb hr hbw
      go_wp2_with fail
      refine HJ2.out.mono ?_
      rintro e w3 ⟨rl, sl, rfl, hrl, hb⟩
      have HRL := hid hrl
      have HB3 := hid (HB2.out.trans (hb.mono HB2.out.size))
      clear hrl hb
      go_wp2
      go_ret2
      exact ⟨_, _, rfl, HRL.out, HB3.out⟩
  · have hne : (K.chr m n bs != 0) = true := by simpa using h0
    have HRS : Hid (K.trm m n bs = [] ∧ K.tre m n bs = K.chr m n bs) := hid ⟨by unfold K.trm; rw [if_neg (fun h => h0 h.1)], by unfold K.tre; rw [if_neg h0]⟩
    rw [HRS.out.1, HRS.out.2]
    generalize K.chr m n bs = err at *
    clear h0 hm
    unfold K.rk at HCK ⊢
    go_enter Try.func34, Try.ntmps34
    go_wp2_with fail
    refine HCK.out.mono ?_
    rintro e w1 ⟨rfl, hb⟩
    have HBW := hid (HB0.out.trans (hb.mono HB0.out.size))
    clear hb
    go_wp2
    go_ret2
    exact ⟨_, _, rfl, (fun k hk => absurd hk (Nat.not_lt_zero _)), HBW.out⟩
end Go.Proofs.Ytmbfpekcfeeifaa
