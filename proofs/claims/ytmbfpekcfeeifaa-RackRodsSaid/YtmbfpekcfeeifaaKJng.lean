/- Package rack: the walk of joining. -/
import Derived.Test.YtmbfpekcfeeifaaKTurn
import Derived.Test.YtmbfpekcfeeifaaKRod
import Derived.Test.YtmbfpekcfeeifaaKNdd
namespace Go.Proofs.Ytmbfpekcfeeifaa
open Go.RowKit

/-- One more rod: the arrows, the indices taken, how many rods there were. -/
noncomputable def K.jst (m : Nat) (s : (Nat → Nat → Bool) × List Int × Nat) (b : Br) : (Nat → Nat → Bool) × List Int × Nat :=
  (if K.R s.1 b.1.toNat (m + b.2.1.toNat) = true then s.1 else K.drawn s.1 b.1.toNat (m + b.2.1.toNat) b.2.2, if K.R s.1 b.1.toNat (m + b.2.1.toNat) = true then s.2.1 else s.2.1 ++ [(s.2.2 : Int)], s.2.2 + 1)
/-- The rods that join something, taken one after the other. -/
noncomputable def K.jo (m : Nat) (M : Nat → Nat → Bool) (rods : List Br) : (Nat → Nat → Bool) × List Int × Nat := rods.foldl (K.jst m) (M, [], 0)
theorem K.jo_take {m : Nat} {M : Nat → Nat → Bool} {rods : List Br} {k : Nat} (h : k < rods.length) : K.jo m M (rods.take (k + 1)) = K.jst m (K.jo m M (rods.take k)) rods[k] := by
  unfold K.jo
  rw [List.take_succ_eq_append_getElem h, List.foldl_append]
  rfl
theorem K.jo_cnt (m : Nat) (rods : List Br) : ∀ s, (rods.foldl (K.jst m) s).2.2 = s.2.2 + rods.length := by
  induction rods with
  | nil => intro s; rfl
  | cons b l ih => intro s; rw [List.foldl_cons, ih]; show s.2.2 + 1 + l.length = _; rw [List.length_cons]; omega
theorem K.jo_len (m : Nat) (rods : List Br) : ∀ s, (rods.foldl (K.jst m) s).2.1.length ≤ s.2.1.length + rods.length := by
  induction rods with
  | nil => intro s; exact Nat.le_refl _
  | cons b l ih =>
    intro s
    rw [List.foldl_cons]
    refine Nat.le_trans (ih _) ?_
    have : (K.jst m s b).2.1.length ≤ s.2.1.length + 1 := by
      unfold K.jst
      split
      · exact Nat.le_succ _
      · rw [List.length_append]; exact Nat.le_refl _
    rw [List.length_cons]
    omega
theorem K.jo_bnd {m n : Nat} (hm : m ≤ 6) (hn : n ≤ 6) (rods : List Br) : ∀ s : (Nat → Nat → Bool) × List Int × Nat, (∀ b ∈ rods, K.InB m n b) → K.Bnd s.1 → K.Bnd (rods.foldl (K.jst m) s).1 := by
  induction rods with
  | nil => intro s _ h; exact h
  | cons b l ih =>
    intro s hv h
    rw [List.foldl_cons]
    refine ih _ (fun b hb => hv b (List.mem_cons_of_mem _ hb)) ?_
    obtain ⟨h1, h2, h3, h4⟩ := hv b List.mem_cons_self
    unfold K.jst
    show K.Bnd (if _ then _ else _)
    split
    · exact h
    · exact K.drawn_bnd h (by omega) (by omega) _
/-- A list of numbers, returned. -/
def K.LsI (L : List Int) (w : World) (e : Ending) (w' : World) : Prop := ∃ rl sl, e = .returned (.slice rl L.length sl) ∧ RdI w' rl L ∧ Below w.heap.size w w'

set_option maxHeartbeats 4000000 in
set_option maxRecDepth 100000 in
theorem joining_any (m n : Nat) (a : Option Addr) (c : Nat) (bs : List Br) (ra : Option Addr) (rc : Nat) (rods : List Br) (w : World) (hm : bs.length ≤ maxLen) (hR : RdB w a bs) (h1 : m ≤ 6) (h2 : n ≤ 6) (hv : ∀ b ∈ bs, K.InB m n b)
    (h60 : rods.length ≤ 60) (hR2 : RdB w ra rods) (hv2 : ∀ b ∈ rods, K.InB m n b) :
    Calls Try.prog 71 #[K.rk m n a bs.length c, .slice ra rods.length rc] w (K.LsI (K.jo m (K.leads m bs) rods).2.1 w) := by
  have hb0 : Below w.heap.size w (w.alloc (.cells #[.int .i64 (m : Int), .int .i64 (n : Int), .slice a bs.length c] 24)) := (Below.refl _ _).alloc (Nat.le_refl _) _
  have HB0 := hid hb0
  have HAO := hid (arrowsOf_any m n a c bs _ hm (hR.stays hb0) h1 h2 hv)
  have HM := hid (K.leads_bnd h1 h2 hv)
  obtain ⟨i0, hi, hz0, hz1, hz2⟩ := info_parts (show (Try.prog.info? 3).map (fun i => (i.zero, i.size, i.bytes)) = some (some (.int .i64 0), 1, 8) by kernel_rfl)
  have HR2 := hid hR2
  have HV2 := hid hv2
  clear hb0 hR hv hR2 hv2
  generalize K.leads m bs = M0 at *
  unfold K.rk at HAO ⊢
  go_enter Try.func71, Try.ntmps71
  go_wp2_with fail
  generalize hw1 : w.alloc (.cells #[.int .i64 (m : Int), .int .i64 (n : Int), .slice a bs.length c] 24) = w1 at *
  clear hw1
  refine HAO.out.mono ?_
  rintro e w2 ⟨g, rfl, hg, hA, hb⟩
  have HA2 := hid hA
  have HB2 := hid (HB0.out.trans (hb.mono HB0.out.size))
  have HG : Hid (w.heap.size ≤ g ∧ g < w2.heap.size) := hid ⟨Nat.le_trans HB0.out.size hg, hA.lt⟩
  clear hA hb hg HAO HB0
  generalize Value.slice a bs.length c = sl at *
  have HCN := hid (fun k (hk : k ≤ rods.length) => show (K.jo m M0 (rods.take k)).2.2 = k by
    unfold K.jo; rw [K.jo_cnt, List.length_take]; simp; omega)
  have HLN := hid (fun k (hk : k ≤ rods.length) => show (K.jo m M0 (rods.take k)).2.1.length ≤ k by
    unfold K.jo; have := K.jo_len m (rods.take k) (M0, [], 0); rw [List.length_take] at this; simp at this; omega)
  have HBD := hid (fun k => show K.Bnd (K.jo m M0 (rods.take k)).1 from K.jo_bnd h1 h2 (rods.take k) (M0, [], 0) (fun b hb => HV2.out b (List.mem_of_mem_take hb)) HM.out)
  go_wp2
  go_loopw [7, 18] (fun v i wr => ∃ k : Nat, k ≤ rods.length ∧ i = .int .i64 k ∧ ArrAt wr g m n sl (K.jo m M0 (rods.take k)).1 ∧ RowI wr w2.heap.size v (K.jo m M0 (rods.take k)).2.1 ∧ Below w.heap.size w wr ∧ w2.heap.size ≤ wr.heap.size) (fun _ i _ => rods.length - (intOf i).toNat)
  case atStart => exact ⟨0, Nat.zero_le _, rfl, HA2.out, World.ownsRow_nil _ _ _ _, HB2.out, Nat.le_refl _⟩
  case round =>
    clear HA2 HB2
    obtain ⟨k, hk, rfl, hA, hrow, hb, hsz⟩ := hrel
    have HA := hid hA
    have HROW := hid hrow
    have HB := hid hb
    have HSZ := hid hsz
    clear hA hrow hb hsz
    by_cases hlt : k < rods.length
    · obtain ⟨b, off, rfl, c1, c2, c3⟩ := (HR2.out.stays HB.out) k hlt
      have HJ := hid (K.jo_take (m := m) (M := M0) hlt)
      have hin := HV2.out _ (List.getElem_mem hlt)
      have HCK := hid (HCN.out k hk)
      have HLK := hid (HLN.out k hk)
      have HBK := hid (HBD.out k)
      generalize hjo : K.jo m M0 (rods.take (k + 1)) = J1 at *
      have HJ1 := hid hjo
      clear hjo
      generalize K.jo m M0 (rods.take k) = J0 at *
      generalize rods[k] = br at *
      obtain ⟨x, y, z⟩ := br
      obtain ⟨M, I, kk⟩ := J0
      obtain ⟨g1, g2, g3, g4⟩ := hin
      simp only at g1 g2 g3 g4 c1 c2 c3 HCK HLK HBK HA HROW
      obtain ⟨p, rfl⟩ : ∃ p : Nat, x = (p : Int) := ⟨x.toNat, by omega⟩
      obtain ⟨q, rfl⟩ : ∃ q : Nat, y = (q : Int) := ⟨y.toNat, by omega⟩
      have hp : p < 6 := by omega
      have hq : q < 6 := by omega
      clear g1 g2 g3 g4
      have HK1 : Hid (J1.1 = (if K.R M p (m + q) = true then M else K.drawn M p (m + q) z) ∧ J1.2.1 = (if K.R M p (m + q) = true then I else I ++ [(k : Int)])) := hid (by
        have hc : kk = k := HCK.out
        subst hc
        rw [HJ.out]
        unfold K.jst
        simp only [Int.toNat_natCast]
        exact ⟨trivial, trivial⟩)
      have hsz := HA.out.lt
      have hal : Below wr.heap.size wr (wr.alloc (.cells #[.int .i64 (p : Int), .int .i64 (q : Int), .int .i64 z] 63)) := (Below.refl _ _).alloc (Nat.le_refl _) _
      have HAL := hid hal
      have HAA := hid (HA.out.alloc (.cells #[.int .i64 (p : Int), .int .i64 (q : Int), .int .i64 z] 63))
      have HE := hid (ends_any g m n sl M p q z _ HAA.out h1 (by omega))
      have HBX : Hid ((wr.alloc (.cells #[.int .i64 (p : Int), .int .i64 (q : Int), .int .i64 z] 63)).rowIs wr.heap.size 63 3 (fun i => if i = 0 then .int .i64 (p : Int) else if i = 1 then .int .i64 (q : Int) else .int .i64 z)) := hid (World.rowIs_alloc wr #[.int .i64 (p : Int), .int .i64 (q : Int), .int .i64 z] 63 _ (fun i hi => by
        have h : i < 3 := hi
        have h2 : i = 0 ∨ i = 1 ∨ i = 2 := by omega
        rcases h2 with rfl | rfl | rfl <;> rfl))
      have hix : (0 : Int) ≤ (k : Int) ∧ (k : Int) < (rods.length : Int) := by omega
      have HRR := hid (fun W (hW : ArrAt W g m n sl M) => reaches_R g m n sl M p (m + q) W (by omega) HBK.out hW)
      rw [Int.natCast_add] at HRR
      have HDR := hid (fun W (hW : ArrAt W g m n sl M) => draw_any g m n sl M p q z W hW h1 hp hq)
      clear hal HJ HBD HLN HCN hsz
      go_wp2_with fail
      generalize hwa : wr.alloc (.cells #[.int .i64 (p : Int), .int .i64 (q : Int), .int .i64 z] 63) = wa at *
      clear hwa
      refine HE.out.mono ?_
      rintro e w5 ⟨rfl, hb5⟩
      have HA5 := hid (HAA.out.of_block (hb5.block g HAA.out.lt))
      have HX5 := hid (HBX.out.of_block (hb5.block _ HBX.out.lt))
      have HB5 := hid (HAL.out.trans (hb5.mono HAL.out.size))
      have HR5 := hid (HRR.out w5 HA5.out)
      clear hb5 HAA HBX HAL HRR HE
      cases hr : K.R M p (m + q) with
      | true =>
        rw [hr] at HR5
        rw [hr] at HK1
        clear hr
        go_wp2_with fail
        refine HR5.out.mono ?_
        rintro e w6 ⟨rfl, hb6⟩
        have HA6 : Hid (ArrAt w6 g m n sl J1.1) := hid (by rw [HK1.out.1]; exact HA5.out.of_block (hb6.block g HA5.out.lt))
        have HB6 := hid (HB5.out.trans (hb6.mono HB5.out.size))
        have HO6 : Hid (RowI w6 w2.heap.size u7 J1.2.1) := hid (by rw [HK1.out.2]; exact ownsRow_stays (show wr.ownsRow w2.heap.size 3 1 u7 I.length (I.map (Value.int .i64)) from HROW.out) HB6.out)
        have HW6 := hid (HB.out.trans (HB6.out.mono HB.out.size))
        clear hb6 HA5 HX5 HB5 HR5 HDR
        go_wp2
        go_roundw
        case rel => exact ⟨k + 1, by omega, by go_num, by rw [HJ1.out]; exact HA6.out, by rw [HJ1.out]; exact HO6.out, HW6.out, Nat.le_trans HSZ.out HB6.out.size⟩
        case measure => simp [intOf]; omega
      | false =>
        rw [hr] at HR5
        rw [hr] at HK1
        clear hr
        go_wp2_with fail
        refine HR5.out.mono ?_
        rintro e w6 ⟨rfl, hb6⟩
        have HA6 := hid (HA5.out.of_block (hb6.block g HA5.out.lt))
        have HX6 := hid (HX5.out.of_block (hb6.block _ HX5.out.lt))
        have HB6 := hid (HB5.out.trans (hb6.mono HB5.out.size))
        have HD6 := hid (HDR.out w6 HA6.out)
        have x0 : w6.cell? ⟨wr.heap.size, 0, none⟩ = some (.int .i64 (p : Int)) := HX6.out.cell (i := 0) (by omega)
        have x1 : w6.cell? ⟨wr.heap.size, 1, none⟩ = some (.int .i64 (q : Int)) := HX6.out.cell (i := 1) (by omega)
        have x2 : w6.cell? ⟨wr.heap.size, 2, none⟩ = some (.int .i64 z) := HX6.out.cell (i := 2) (by omega)
        clear hb6 HA5 HX5 HB5 HR5 HDR
        go_wp2_with fail
        refine HD6.out.mono ?_
        rintro e w7 ⟨rfl, hA7, hbu⟩
        have HA7 : Hid (ArrAt w7 g m n sl J1.1) := hid (by rw [HK1.out.1]; exact hA7)
        have hgl : g < w2.heap.size := HG.out.2
        have HO6 := hid (ownsRow_stays (show wr.ownsRow w2.heap.size 3 1 u7 I.length (I.map (Value.int .i64)) from HROW.out) HB6.out)
        have hne : u7.ownBlock = none ∨ u7.ownBlock ≠ some g := by
          cases hq : u7.ownBlock with
          | none => exact .inl rfl
          | some q => exact .inr fun e => by have := (World.ownsRow.lt HO6.out q hq).1; have := Option.some.inj e; omega
        have HO7 := hid (World.ownsRow.kept (w' := w7) (row := some g) HO6.out ⟨hbu.os, hbu.tape, hbu.output, hbu.size, fun k hk hn => hbu.block k hk (fun e => hn (by rw [e]))⟩ hne)
        have HB7 := hid ((HB.out.trans (HB6.out.mono HB.out.size)).trans (hbu.below HG.out.1 (Nat.le_trans HB.out.size HB6.out.size)))
        have HSZ7 : Hid (w2.heap.size ≤ w7.heap.size) := hid (Nat.le_trans HSZ.out (Nat.le_trans HB6.out.size hbu.size))
        have hnl := HLK.out
        have HM1 : Hid (I.length + 1 ≤ maxLen) := hid (by unfold maxLen; omega)
        have HM2 : Hid ((I.length + 1) * 8 ≤ 140737488355328) := hid (by omega)
        clear hnl hA7 hbu hne x0 x1 x2 HO6 HB6 HX6 HA6 HD6 hgl
        go_wp2_with (at_builtin; refine wpList_append_own _ rfl _ _ 40 rfl w2.heap.size 3 i0 (.int .i64 0) 1 8 Try.underlying40 hi hz0 hz1 hz2 rfl (by decide) _ _ _ rfl (ownsRow_stays HO7.out ((Below.refl _ _).alloc (Nat.le_refl _) _)) ⟨w7.heap.size, 0, none⟩ 1 1 [.int .i64 (k : Int)] rfl rfl ?c1 ?c2 HM1.out HM2.out ?c5 ?_)
        case c1 =>
          intro j u hj
          match j, hj with
          | 0, hj => simp at hj; subst hj; simp [Addr.add]
        case c2 => intro u hu; simp at hu; subst hu; rfl
        case c5 => exact Nat.le_trans HSZ7.out (by simp)
        intro v' w9 hown' hgrow _
        have HBZ9 := hid (Below.grown (HB7.out.alloc HB7.out.size (.cells #[.int .i64 (k : Int)] 3)) hgrow (by simp; have := HB7.out.size; omega) (fun q hq => by have := (World.ownsRow.lt HO7.out q hq).1; have := HG.out; omega))
        have HO9 := hid hown'
        have HA9 : Hid (ArrAt w9 g m n sl J1.1) := hid (row_grown (HA7.out.alloc (.cells #[.int .i64 (k : Int)] 3)) hgrow (fun e => by have := (World.ownsRow.lt HO7.out g e).1; have := HG.out; omega))
        have HSZ9 : Hid (w2.heap.size ≤ w9.heap.size) := hid (Nat.le_trans HSZ7.out (Nat.le_trans (by simp) hgrow.size))
        clear hown' hgrow
        go_wp2
        go_roundw
        case rel => exact ⟨k + 1, by omega, by go_num, by rw [HJ1.out]; exact HA9.out, by
          rw [HJ1.out, HK1.out.2]
          unfold RowI
          simp only [Bool.false_eq_true, if_false]
          rw [List.length_append, List.map_append]
          exact HO9.out, HBZ9.out, HSZ9.out⟩
        case measure => simp [intOf]; omega
    · have hke : k = rods.length := by omega
      subst hke
      rw [List.take_length] at HROW
      obtain ⟨rl, sl', rfl, hrd⟩ := HROW.out.rd
      have HRD := hid hrd
      clear hrd
      go_wp2
      go_ret
      exact ⟨_, _, rfl, HRD.out, HB.out⟩
end Go.Proofs.Ytmbfpekcfeeifaa
