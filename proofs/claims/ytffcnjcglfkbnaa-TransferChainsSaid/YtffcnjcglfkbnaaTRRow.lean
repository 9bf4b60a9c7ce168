/- Package tuscheref04: the walks of Ways, row and Row. -/
import Derived.Test.YtffcnjcglfkbnaaTRow
namespace Go.Proofs.Ytffcnjcglfkbnaa
open Go.RowKit

theorem step_append_own {P : Program} {w : World} {ops : Array Oper} {o : Oper} {a : Act} {K : Act → World → Prop} {Q : Exit → Act → World → Prop} {E : Prop} (hgd : o.guard = none) (s x : Operand) (t : TypeId)
    (ho : o.op = .call { callee := .builtin .append, args := #[s, x], argTypes := #[t, t] })
    (base : Nat) (e : TypeId) (i : TypeInfo) (z : Value) (size bytes : Nat) (ht : P.underlying t = some (.slice e)) (hi : P.info? e = some i) (hz : i.zero = some z)
    (hsize : i.size = size) (hby : i.bytes = bytes) (hzs : z.cells.size = size) (hsz : 0 < size)
    (v : Value) (n : Nat) (xs : List Value) (hs : a.eval s = v) (hown : w.ownsRow base e size v n xs)
    (ad : Addr) (m c : Nat) (news : List Value) (hx : a.eval x = .slice (some ad) m c) (hl : news.length = m * size) (hnews : ∀ j u, news[j]? = some u → w.cell? (ad.add j) = some u) (h1 : ∀ u ∈ news, u.oneCell' = true)
    (h63 : n + m ≤ maxLen) (hbytes : (n + m) * bytes ≤ 140737488355328) (hbase : base ≤ w.heap.size)
    (h : ∀ v' w', w'.ownsRow base e size v' (n + m) (xs ++ news) → w.grownBy w' v.ownBlock → K (a.put o.dst v') w') :
    if Region.wanted o (yielded ops a.tmps) = true then Oper.wp P o a w K Q else E := by
  have hw : Region.wanted o (yielded ops a.tmps) = true := by simp [Region.wanted, hgd]
  rw [if_pos hw]
  exact wp_append_own w s x t ho base e i z size bytes ht hi hz hsize hby hzs hsz v n xs hs hown ad m c news hx hl hnews h1 h63 hbytes hbase fun v' w' h2 h3 _ => h v' w' h2 h3

theorem news2 (W : World) (u v : Value) (t : TypeId) : ∀ (j : Nat) (x : Value), [u, v][j]? = some x → (W.alloc (.cells #[u, v] t)).cell? (Addr.add ⟨W.heap.size, 0, none⟩ j) = some x := by
  intro j x hj
  match j, hj with
  | 0, hj => simp at hj; subst hj; simp [Addr.add]
  | 1, hj => simp at hj; subst hj; simp [Addr.add]
theorem pair_some {o : Option (Nat × Nat)} (h : o.isSome = true) (d : Int) : K.pairOf o d = .agg #[.int .i64 (K.pr o).1, .int .i64 (K.pr o).2] := by
  cases o with
  | none => cases h
  | some p => rfl
theorem ones2 (p q : Int) : ∀ u ∈ [Value.int .i64 p, Value.int .i64 q], u.oneCell' = true := by
  intro u hu
  simp at hu
  rcases hu with rfl | rfl <;> rfl

theorem refWay_at {l : List Int} (hl : K.Chain l) {b off c i : Nat} (hi1 : 1 ≤ i) (hlt : i < l.length) (W : World) (hx : ∀ k, k < l.length → W.cell? ⟨b, off + k, none⟩ = some (.int .i64 (l.getD k 0))) :
    Calls Try.prog 48 #[.slice (some ⟨b, off, none⟩) i c, .int .i64 (l.getD i 0)] W fun e w' => e = .returned (.agg #[.int .i64 (K.pr (K.way (l.take i) (l.getD i 0))).1, .int .i64 (K.pr (K.way (l.take i) (l.getD i 0))).2]) ∧ Below W.heap.size W w' := by
  have htl : (l.take i).length = i := by rw [List.length_take]; omega
  have hget : ∀ k, k < i → (l.take i).getD k 0 = l.getD k 0 := fun k hk => by simp [List.getD, hk]
  have h20 := hl.few
  have h := refWay_any b off c (l.take i) (l.getD i 0) W (by omega) (fun k hk => by
    rw [hget k (by omega)]
    have := K.img_iff (hl.img k (by omega)); omega) (fun k hk => by
    rw [hget k (by omega)]
    exact hx k (by omega))
  rw [htl, pair_some (hl.way i hi1 hlt)] at h
  exact h

set_option maxHeartbeats 8000000 in
set_option maxRecDepth 100000 in
theorem refWays_any (a : Option Addr) (c : Nat) (l : List Int) (w : World) (hc : l.length ≤ c) (hcm : c ≤ maxLen) (hx : RdI w a l) :
    Calls Try.prog 17 #[.slice a l.length c] w fun e w' => ∃ r cr xs, e = .returned (.tuple #[.slice r xs.length cr, .int .i64 (K.chk l)]) ∧ xs = K.waysV l ∧ RdP w' r xs ∧ Below w.heap.size w w' := by
  have HC := hid (refCheck_any a c l w hc hcm hx)
  have hcm' := hcm
  unfold maxLen at hcm'
  unfold K.waysV
  by_cases h0 : K.chk l = 0
  · have hch := K.chain_of h0
    rw [if_pos h0]
    rw [h0] at HC ⊢
    obtain ⟨b, off, rfl, hcells⟩ := hx.cells hch.some
    have HX := hid hcells
    have HL := hid hch
    have h20 := hch.few
    have h1l := hch.some
    obtain ⟨i0, hi, hz0, hz1, hz2⟩ := info_parts (show (Try.prog.info? 58).map (fun i => (i.zero, i.size, i.bytes)) = some (some (.agg #[.int .i64 0, .int .i64 0]), 2, 16) by kernel_rfl)
    clear hcells hx hch h0
    go_enter Try.func17, Try.ntmps17
    go_wp2_with fail
    refine HC.out.mono ?_
    rintro e w1 ⟨rfl, hb⟩
    have HB := hid hb
    clear hb
    go_wp2
    go_loopw [5, 6] (fun v s wr => ∃ i : Nat, 1 ≤ i ∧ i ≤ l.length ∧ s = .int .i64 i ∧ wr.ownsRow w.heap.size 58 2 v (i - 1) (pairCells (K.ways l (i - 1))) ∧ Below w.heap.size w wr) (fun _ s _ => l.length - (intOf s).toNat)
    case atStart => exact ⟨1, Nat.le_refl _, h1l, rfl, World.ownsRow_nil _ _ _ _, HB.out⟩
    case round =>
      obtain ⟨i, hi1, hi2, rfl, hown, hb⟩ := hrel
      have HO := hid hown
      have HBR := hid hb
      clear hown
      by_cases hlt : i < l.length
      · have hci := cell_stays hb (Nat.le_refl _) (HX.out i hlt)
        have HWY := hid (fun W (hW : Hid (Below wr.heap.size wr W)) => by
          have h := refWay_at HL.out (c := c) hi1 hlt W (fun k hk => cell_stays (hb.trans (hW.out.mono hb.size)) (Nat.le_refl _) (HX.out k hk))
          exact h.mono (R' := fun e w' => e = .returned (.agg #[.int .i64 (K.pr (K.way (l.take i) (l.getD i 0))).1, .int .i64 (K.pr (K.way (l.take i) (l.getD i 0))).2]) ∧ Hid (Below wr.heap.size wr w')) (fun e w' hq => ⟨hq.1, hid (hW.out.trans (hq.2.mono hW.out.size))⟩))
        have HWS : Hid (K.ways l (i - 1 + 1) = K.ways l (i - 1) ++ [K.pr (K.way (l.take i) (l.getD i 0))]) := hid (by
          show K.ways l (i - 1) ++ [K.pr (K.way (l.take (i - 1 + 1)) (l.getD (i - 1 + 1) 0))] = _
          rw [show i - 1 + 1 = i by omega])
        have h1 : (0 : Int) ≤ (i : Int) ∧ (i : Int) < (l.length : Int) := by omega
        have h2 : (0 : Int) ≤ (i : Int) ∧ (i : Int) ≤ (c : Int) := by omega
        have h3 : ¬ c = 0 := by omega
        have hcw := HX.out i hlt
        generalize K.pr (K.way (l.take i) (l.getD i 0)) = pq at HWY HWS
        obtain ⟨p, q⟩ := pq
        generalize l.getD i 0 = x at *
        have HCL := hid (fun W (h : Below wr.heap.size wr W) => show W.cell? ⟨b, off + i, none⟩ = some (.int .i64 x) from cell_stays h (Nat.le_refl _) hci)
        have HCW := hid (fun W (h : Below w.heap.size w W) => show W.cell? ⟨b, off + i, none⟩ = some (.int .i64 x) from cell_stays h (Nat.le_refl _) hcw)
        clear hcw
        have HM1 : Hid ((i - 1) + 1 ≤ maxLen) := hid (by unfold maxLen; omega)
        have HM2 : Hid (((i - 1) + 1) * 16 ≤ 140737488355328) := hid (by omega)
        have HSZ := hid hb.size
        clear hb hci
        have hd : Hid (Below wr.heap.size wr wr.drew) := hid (Below.refl _ _).drew
        have q0 := HCL.out _ hd.out
        go_wp2
        go_region_held3 (fun W => W.cell? ⟨b, off + i, none⟩ = some (.int .i64 x)) (first | exact HCL.out _ (Hid.out (by assumption)) | exact HCL.out _ (hb2.out.alloc hb2.out.size _) | exact HCW.out _ hb4.out | go_keep) (first | (go_at_call 48; (with_reducible refine (HWY.out _ (by assumption)).mono ?_); rintro e w2 ⟨rfl, hb2⟩) | (refine step_append_own rfl (.tmp 18) (.tmp 27) 24 rfl w.heap.size 58 i0 (.agg #[.int .i64 0, .int .i64 0]) 2 16 Try.underlying24 hi hz0 hz1 hz2 rfl (by decide) _ _ _ rfl (ownsRow_stays HO.out (hb2.out.alloc hb2.out.size _)) ⟨w2.heap.size, 0, none⟩ 1 1 [.int .i64 p, .int .i64 q] rfl rfl (news2 w2 _ _ _) (ones2 p q) HM1.out HM2.out (Nat.le_trans HSZ.out (hb2.out.alloc hb2.out.size _).size) ?_; intro v1 wa hw1 hg1; have hb4 := hid ((HBR.out.trans ((hb2.out.alloc hb2.out.size (.cells #[.int .i64 p, .int .i64 q] 58)).mono HBR.out.size)).grown hg1 (Nat.le_trans HSZ.out (hb2.out.alloc hb2.out.size _).size) (fun q hq => (World.ownsRow.lt HO.out q hq).1)); have ho1 := hid hw1; clear hw1 hg1))
        clear q0 HWY hd HCL HO HBR hb2
        go_wp2
        go_roundw
        case rel => exact ⟨i + 1, by omega, by omega, by go_num, by
          have h := ho1.out
          rw [← pairCells_snoc _ (p, q), ← HWS.out, show i - 1 + 1 = i from by omega] at h
          rw [Nat.add_sub_cancel]
          exact h, hb4.out⟩
        case measure => simp [intOf]; omega
      · have hie : i = l.length := by omega
        subst hie
        obtain ⟨r, cr, rfl, hr⟩ := RdP.of_row HO.out
        have HR := hid hr
        clear hr HO hb
        go_wp2
        go_ret2
        exact ⟨r, cr, _, rfl, rfl, HR.out, HBR.out⟩
  · rw [if_neg h0]
    have hne : (K.chk l != 0) = true := by rw [bne_iff_ne]; exact h0
    generalize K.chk l = z at *
    clear h0 hx
    go_enter Try.func17, Try.ntmps17
    go_wp2_with fail
    refine HC.out.mono ?_
    rintro e w1 ⟨rfl, hb⟩
    have HB := hid hb
    clear hb
    go_wp2
    go_ret2
    exact ⟨none, 0, [], rfl, rfl, fun _ h => absurd h (Nat.not_lt_zero _), HB.out⟩

theorem K.ways_get (l : List Int) : ∀ (n k : Nat), k < n → (K.ways l n)[k]? = some (K.pr (K.way (l.take (k + 1)) (l.getD (k + 1) 0)))
  | 0, k, h => absurd h (Nat.not_lt_zero _)
  | n + 1, k, h => by
    show (K.ways l n ++ [K.pr (K.way (l.take (n + 1)) (l.getD (n + 1) 0))])[k]? = _
    by_cases e : k = n
    · subst e
      rw [List.getElem?_append_right (by rw [K.ways_length]; exact Nat.le_refl _), K.ways_length, Nat.sub_self]; rfl
    · rw [List.getElem?_append_left (by rw [K.ways_length]; omega)]
      exact K.ways_get l n k (by omega)

set_option maxHeartbeats 8000000 in
set_option maxRecDepth 100000 in
theorem refRow_any (b off c : Nat) (l : List Int) (w : World) (hl : K.Chain l) (hc : l.length ≤ c) (hcm : c ≤ maxLen) (hx : ∀ k, k < l.length → w.cell? ⟨b, off + k, none⟩ = some (.int .i64 (l.getD k 0))) :
    Calls Try.prog 50 #[.slice (some ⟨b, off, none⟩) l.length c] w fun e w' => e = .returned (.bool (K.row l)) ∧ Below w.heap.size w w' := by
  have hcm' := hcm
  unfold maxLen at hcm'
  have HX := hid hx
  have HL := hid hl
  have h20 := hl.few
  have h1l := hl.some
  clear hx hl
  have HB := hid (Below.refl w.heap.size w)
  have HW0 : Hid (K.row l = K.rowF ((K.ways l (l.length - 1)).drop 0) 0) := hid rfl
  go_enter Try.func50, Try.ntmps50
  go_wp2
  go_loopw [3] (fun s wr => ∃ i : Nat, 1 ≤ i ∧ i ≤ l.length ∧ s = .int .i64 i ∧ K.row l = K.rowF ((K.ways l (l.length - 1)).drop (i - 1)) (i - 1) ∧ Below w.heap.size w wr) (fun s _ => l.length - (intOf s).toNat)
  case atStart => exact ⟨1, Nat.le_refl _, h1l, rfl, HW0.out, HB.out⟩
  case round =>
    obtain ⟨i, hi1, hi2, rfl, hrow, hb⟩ := hrel
    have HRW := hid hrow
    have HBR := hid hb
    clear hrow HW0
    by_cases hlt : i < l.length
    · have hci := cell_stays hb (Nat.le_refl _) (HX.out i hlt)
      have HWY := hid (fun W (hW : Hid (Below wr.heap.size wr W)) => by
        have h := refWay_at HL.out (c := c) hi1 hlt W (fun k hk => cell_stays (hb.trans (hW.out.mono hb.size)) (Nat.le_refl _) (HX.out k hk))
        exact h.mono (R' := fun e w' => e = .returned (.agg #[.int .i64 (K.pr (K.way (l.take i) (l.getD i 0))).1, .int .i64 (K.pr (K.way (l.take i) (l.getD i 0))).2]) ∧ Hid (Below wr.heap.size wr w')) (fun e w' hq => ⟨hq.1, hid (hW.out.trans (hq.2.mono hW.out.size))⟩))
      have HD : Hid (K.rowF ((K.ways l (l.length - 1)).drop (i - 1)) (i - 1) = (decide ((K.pr (K.way (l.take i) (l.getD i 0))).1 = ((i - 1 : Nat) : Int)) && K.rowF ((K.ways l (l.length - 1)).drop (i + 1 - 1)) (i + 1 - 1))) := hid (by
        have hlen := K.ways_length l (l.length - 1)
        have hk : i - 1 < (K.ways l (l.length - 1)).length := by omega
        have hg := K.ways_get l (l.length - 1) (i - 1) (by omega)
        rw [List.getElem?_eq_getElem hk, show i - 1 + 1 = i from by omega] at hg
        rw [K.rowF_drop hk, Option.some.inj hg, show i - 1 + 1 = i + 1 - 1 from by omega])
      have h1 : (0 : Int) ≤ (i : Int) ∧ (i : Int) < (l.length : Int) := by omega
      have h2 : (0 : Int) ≤ (i : Int) ∧ (i : Int) ≤ (c : Int) := by omega
      have h3 : ¬ c = 0 := by omega
      have hwr : IntKind.i64.wrap ((i : Int) - 1) = ((i - 1 : Nat) : Int) := by rw [IntWalk.i64_in _ (by omega)]; omega
      have hsub : (i : Int) - 1 = ((i - 1 : Nat) : Int) := by omega
      have hwr2 : IntKind.i64.wrap ((i - 1 : Nat) : Int) = ((i - 1 : Nat) : Int) := IntWalk.i64_in _ (by omega)
      have IX := fun (W : World) (p q : Int) => index0 W p q
      generalize (K.pr (K.way (l.take i) (l.getD i 0))).1 = p at HWY HD
      generalize (K.pr (K.way (l.take i) (l.getD i 0))).2 = q at HWY
      generalize l.getD i 0 = x at *
      have HCL := hid (fun W (h : Below wr.heap.size wr W) => show W.cell? ⟨b, off + i, none⟩ = some (.int .i64 x) from cell_stays h (Nat.le_refl _) hci)
      clear hb hci
      have hd : Hid (Below wr.heap.size wr wr.drew) := hid (Below.refl _ _).drew
      have q0 := HCL.out _ hd.out
      by_cases hp : p = ((i - 1 : Nat) : Int)
      · have HN : Hid (K.row l = K.rowF ((K.ways l (l.length - 1)).drop (i + 1 - 1)) (i + 1 - 1)) := hid (by rw [HRW.out, HD.out, decide_eq_true hp]; rfl)
        have hne : (p != ((i - 1 : Nat) : Int)) = false := by rw [bne_eq_false_iff_eq]; exact hp
        clear hp
        go_wp2
        go_region_held3 (fun W => W.cell? ⟨b, off + i, none⟩ = some (.int .i64 x)) (first | exact HCL.out _ (Hid.out (by assumption)) | go_keep) (first | (go_at_call 48; (with_reducible refine (HWY.out _ (by assumption)).mono ?_); rintro e w2 ⟨rfl, hb2⟩))
        have HB3 := hid (HBR.out.trans (hb2.out.mono HBR.out.size))
        clear hb2 q0 HWY HBR hd HCL
        go_wp2
        go_roundw
        case rel => exact ⟨i + 1, by omega, by omega, by go_num, HN.out, HB3.out⟩
        case measure => simp [intOf]; omega
      · have HN : Hid (K.row l = false) := hid (by rw [HRW.out, HD.out, decide_eq_false hp]; rfl)
        have hne : (p != ((i - 1 : Nat) : Int)) = true := by rw [bne_iff_ne]; exact hp
        clear hp
        go_wp2
        go_region_held3 (fun W => W.cell? ⟨b, off + i, none⟩ = some (.int .i64 x)) (first | exact HCL.out _ (Hid.out (by assumption)) | go_keep) (first | (go_at_call 48; (with_reducible refine (HWY.out _ (by assumption)).mono ?_); rintro e w2 ⟨rfl, hb2⟩))
        have HB3 := hid (HBR.out.trans (hb2.out.mono HBR.out.size))
        clear hb2 q0 HWY HBR hd HCL
        go_wp2
        go_ret
        exact ⟨ret_bool HN.out.symm, HB3.out⟩
    · have hie : i = l.length := by omega
      subst hie
      have HN : Hid (K.row l = true) := hid (by rw [HRW.out, List.drop_of_length_le (by rw [K.ways_length]; exact Nat.le_refl _)]; rfl)
      clear hb
      go_wp2
      go_ret
      exact ⟨ret_bool HN.out.symm, HBR.out⟩

set_option maxHeartbeats 4000000 in
set_option maxRecDepth 100000 in
theorem refRowV_any (a : Option Addr) (c : Nat) (l : List Int) (w : World) (hc : l.length ≤ c) (hcm : c ≤ maxLen) (hx : RdI w a l) :
    Calls Try.prog 19 #[.slice a l.length c] w fun e w' => e = .returned (.tuple #[.bool (K.rowV l), .int .i64 (K.chk l)]) ∧ Below w.heap.size w w' := by
  have HC := hid (refCheck_any a c l w hc hcm hx)
  unfold K.rowV
  by_cases h0 : K.chk l = 0
  · have hch := K.chain_of h0
    rw [h0] at HC ⊢
    obtain ⟨b, off, rfl, hcells⟩ := hx.cells hch.some
    have HW := hid (fun W (hW : Below w.heap.size w W) => refRow_any b off c l W hch hc hcm (fun k hk => cell_stays hW (Nat.le_refl _) (hcells k hk)))
    have e0 : (decide ((0 : Int) = 0) && K.row l) = K.row l := by simp
    rw [e0]
    generalize K.row l = ro at *
    clear hcells hx hch h0 e0
    go_enter Try.func19, Try.ntmps19
    go_wp2_with fail
    refine HC.out.mono ?_
    rintro e w1 ⟨rfl, hb⟩
    have HW1 := hid (HW.out w1 hb)
    have HB := hid hb
    clear hb HW
    go_wp2_with fail
    refine HW1.out.mono ?_
    rintro e w2 ⟨rfl, hb2⟩
    have HB2 := hid (HB.out.trans (hb2.mono HB.out.size))
    clear hb2
    go_wp2
    go_ret2
    exact ⟨rfl, HB2.out⟩
  · have hne : (K.chk l == 0) = false := by rw [beq_eq_false_iff_ne]; exact h0
    have e0 : (decide (K.chk l = 0) && K.row l) = false := by rw [decide_eq_false h0]; rfl
    rw [e0]
    generalize K.chk l = z at *
    clear h0 hx e0
    go_enter Try.func19, Try.ntmps19
    go_wp2_with fail
    refine HC.out.mono ?_
    rintro e w1 ⟨rfl, hb⟩
    have HB := hid hb
    clear hb
    go_wp2
    go_ret2
    exact ⟨rfl, HB.out⟩

theorem arrGuard (W : World) (xo yo : Operand) (a b : Array Value) : (eqGuard .neq 58 xo yo (.agg a) (.agg b)).run Try.prog W = .ok () W := by
  have h : Try.prog.eqGuardType Try.prog.depth 58 = false := by kernel_rfl
  simp [eqGuard, go_sem, h]
theorem arrEqIn (d : Nat) (W : World) (x y : Int) : (Op.equalIn (d + 1 + 1) 58 (.agg #[.int .i64 x, .int .i64 y]) (.agg #[.int .i64 x, .int .i64 y])).run Try.prog W = .ok true W := by
  have hi : ∀ a : Int, (Op.equalIn (d + 1) 3 (.int .i64 a) (.int .i64 a)).run Try.prog W = .ok true W := fun a => by
    have := run_equalIn_int (P := Try.prog) (w := W) d 3 .i64 .i64 a a Try.underlying3
    simpa using this
  generalize d + 1 = e at hi ⊢
  conv => lhs; unfold Op.equalIn
  rw [Sem.run_bind, run_underlying Try.underlying58]
  simp only [Result.andThen_ok]
  have hr : List.range' 0 2 = [0, 1] := rfl
  have ha : ∀ W, (isAgg 3).run Try.prog W = .ok false W := fun W => by simp [isAgg, go_sem]
  simp [go_sem, hr, List.forIn_cons, hi, ha]
theorem arrNeq (W : World) (x y : Int) : (binOp .neq 58 (.agg #[.int .i64 x, .int .i64 y]) (.agg #[.int .i64 x, .int .i64 y])).run Try.prog W = .ok (.bool false) W := by
  show (Op.equalIn (9998 + 1 + 1) 58 (.agg #[.int .i64 x, .int .i64 y]) (.agg #[.int .i64 x, .int .i64 y]) >>= fun r => pure (Value.bool (!r)) : Sem Value).run Try.prog W = _
  rw [Sem.run_bind, arrEqIn]
  rfl

set_option maxHeartbeats 1000000 in
theorem pairs_eq (a b : Option Addr) (ca cb : Nat) (xs : List (Int × Int)) (w : World) (hm : xs.length ≤ 100) (ha : RdP w a xs) (hb : RdP w b xs) :
    Calls Try.prog 20 #[.slice a xs.length ca, .slice b xs.length cb] w fun e w' => e = .returned (.bool true) ∧ Below w.heap.size w w' := by
  have HA := hid ha
  have HB := hid hb
  clear ha hb
  have hne : ((xs.length : Int) != (xs.length : Int)) = false := by simp
  go_enter Try.func20, Try.ntmps20
  go_wp2
  go_loopw [5] (fun i wr => ∃ k : Nat, k ≤ xs.length ∧ i = .int .i64 k ∧ ∃ q, wr = w.drewN q) (fun i _ => xs.length - (intOf i).toNat)
  case atStart => exact ⟨0, Nat.zero_le _, rfl, 0, rfl⟩
  case round =>
    obtain ⟨k, hk, rfl, q, rfl⟩ := hrel
    by_cases hlt : k < xs.length
    · obtain ⟨b1, o1, rfl, c1, d1⟩ := HA.out k hlt
      obtain ⟨b2, o2, rfl, c2, d2⟩ := HB.out k hlt
      generalize xs[k].1 = x at *
      generalize xs[k].2 = y at *
      have h1 : (0 : Int) ≤ (k : Int) ∧ (k : Int) < (xs.length : Int) := by omega
      have AG := fun (W : World) (xo yo : Operand) (a b : Array Value) => arrGuard W xo yo a b
      have AN := fun (W : World) (x y : Int) => arrNeq W x y
      go_wp2
      go_quiet (fail)
      go_wp2
      go_roundw
      case rel => exact ⟨k + 1, by omega, by go_num, _, rfl⟩
      case measure => simp [intOf]; omega
    · go_wp2
      go_ret
      exact ⟨rfl, below_drewN (Below.refl _ _) q⟩
end Go.Proofs.Ytffcnjcglfkbnaa
