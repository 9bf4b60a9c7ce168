/- The evaluator, part 2: EvF EvVer EvApp EvApp2 EvApp3 EvDef2 EvW EvOp EvSeq EvDraw EvDraw2 EvDraw3. Made out of the texts of these names. -/
import Derived.Test.YthlcnklbeolhpaaEvAll1
import Derived.IntWalk

/-! EvF -/
namespace Go.Proofs.Ythlcnklbeolhpaa.Ev
open Go Go.RowKit
section
variable {P : Program} {ρ : Rho} {ev : Operand → Option AV} {f : Operand → Value} {st : St} {w : World}

theorem at_upd0 {i : Nat} {b e : Nat} : At (upd ρ i (b, 0, e)) i 0 ⟨b, 0, none⟩ := ⟨b, 0, e, upd_same _ _ _, rfl, rfl, by simp⟩
theorem room_upd {i : Nat} {b e e' : Nat} (h : e' ≤ e) : Room (upd ρ i (b, 0, e)) i e' := ⟨b, 0, e, upd_same _ _ _, h⟩

theorem fill_size {place : Nat → Option (Nat × Nat)} : ∀ {ps : List (Nat × Value)} {cs zs : Array Value}, Instr.fill place cs ps = some zs → zs.size = cs.size
  | [], cs, zs, h => by simp only [Instr.fill, Option.some.injEq] at h; rw [h]
  | (i, v) :: ps, cs, zs, h => by
    simp only [Instr.fill] at h
    split at h
    · cases h
    · split at h
      · cases h
      · rename_i off size _ _
        have hk : ∀ (l : List (Value × Nat)) (c : Array Value), (l.foldl (fun cs (x : Value × Nat) => match x with | (c, j) => cs.setIfInBounds (off + j) c) c).size = c.size := by
          intro l
          induction l with
          | nil => intro c; rfl
          | cons a l ih => intro c; rw [List.foldl_cons, ih]; simp
        rw [fill_size h, ← Array.foldl_toList, hk]

theorem info_size {t : TypeId} {info : TypeInfo} (h : semP P (typeInfo t) = some info) (w : World) : (sizeOf t).run P w = .ok info.size w := by
  unfold sizeOf
  rw [Sem.run_bind, semP_run _ _ h w]; rfl

/-- The operations that make one object. -/
theorem evF_sound (H : RelH ρ st w) (E : EvOk ρ ev f) {o : Oper} {i n' : Nat} (hnone : ρ i = none) (hin : i < n') (hnn : st.nx ≤ n') {v : AV} {ao : AO} (e : evF P ev i o = some (v, ao)) :
    ∃ y w' p, (execOp f o).run P w = .ok (.value y) w' ∧ RelV (upd ρ i p) v y ∧ RelH (upd ρ i p) ⟨st.h.put i ao, n'⟩ w' ∧ w.heap.size ≤ p.1 ∧ Below w.heap.size w w' ∧ (∀ c, ao.cls? = some c → c = i) := by
  unfold evF at e
  split at e
  · rename_i t ho
    split at e
    case h_2 => cases e
    rename_i z hz
    split at e
    case h_2 => cases e
    rename_i ao' hao
    cases e
    refine ⟨.pointer (some ⟨w.heap.size, 0, none⟩), w.alloc (.cells (z.cells.toList ++ []).toArray t), (w.heap.size, 0, (z.cells.toList ++ []).length), ?_, relV_ptr.2 ⟨_, at_upd0, rfl⟩, H.row hnone hin hnn hao (RelL.scs _) [] t, Nat.le_refl _, (Below.refl _ _).alloc (Nat.le_refl _) _, rowOf_cls hao⟩
    unfold execOp; rw [ho]
    refine run_v ?_
    unfold Instr.alloc
    rw [Sem.run_bind, semP_run _ _ hz w]
    simp [newVar, newRow]
  · rename_i t x ho
    split at e
    case h_2 => cases e
    rename_i u hu
    split at e
    case h_2 => cases e
    rename_i ao' hao
    cases e
    refine ⟨.pointer (some ⟨w.heap.size, 0, none⟩), w.alloc (.cells ((f x).cells.toList ++ []).toArray t), (w.heap.size, 0, ((f x).cells.toList ++ []).length), ?_, relV_ptr.2 ⟨_, at_upd0, rfl⟩, H.row hnone hin hnn hao (E x u hu).cells [] t, Nat.le_refl _, (Below.refl _ _).alloc (Nat.le_refl _) _, rowOf_cls hao⟩
    unfold execOp; rw [ho]
    refine run_v ?_
    unfold Instr.box
    simp [newVar, newRow]
  · rename_i t n ps ho
    split at e
    case h_2 => cases e
    rename_i vs el hvs hd
    split at e
    case h_2 => cases e
    rename_i size z hs hz
    cases hb : (n * size).ble 4096 with
    | false => rw [hb] at e; cases e
    | true =>
      rw [hb] at e; simp only [cond_true] at e
      split at e
      case h_2 => cases e
      rename_i cs hcs
      split at e
      case h_2 => cases e
      rename_i ao' hao
      cases e
      have hle := Nat.le_of_ble_eq_true hb
      have hP : RelP ρ vs (ps.map fun (i, x) => (i, f x)).toList := by simpa using evPs_sound E hvs
      obtain ⟨zs, g1, g2⟩ := fillA_sound hP (RelL.scs _) hcs
      have hzl : zs.size = n * size := by rw [fill_size g1]; simp
      refine ⟨.slice (some ⟨w.heap.size, 0, none⟩) n n, w.alloc (.cells (zs.toList ++ []).toArray el), (w.heap.size, 0, (zs.toList ++ []).length), ?_, relV_sl.2 ⟨_, n, fun _ => ⟨at_upd0, room_upd (by simp [hzl])⟩, Nat.le_refl _, fun q hq => by cases hq; rfl, rfl⟩, H.row hnone hin hnn hao g2 [] el, Nat.le_refl _, (Below.refl _ _).alloc (Nat.le_refl _) _, rowOf_cls hao⟩
      unfold execOp; rw [ho]
      refine run_v ?_
      unfold Instr.buildSlice
      rw [Sem.run_bind, run_under hd]; simp only [Result.andThen_ok]
      rw [Sem.run_bind, semP_run _ _ hs w]; simp only [Result.andThen_ok]
      rw [if_neg (by omega)]
      by_cases h0 : n * size = 0
      · have e0 : ∀ (zz : Array Value), ((Array.range (n * size)).map (zz[· % zz.size]!)) = #[] := by intro zz; rw [h0]; simp
        rw [e0] at g1
        simp only [e0, if_pos h0, Sem.run_bind, Sem.run_pure, pure_bind, g1]
        simp [newRow]
      · simp only [if_neg h0, Sem.run_bind, semP_run _ _ hz w, Result.andThen_ok, bind_pure_comp, Sem.run_map, pure_bind, g1]
        simp [newRow]
  · rename_i t r ho
    split at e
    case h_2 => cases e
    cases e
    refine ⟨.map (some w.heap.size), w.alloc (.map #[] 0), (w.heap.size, 0, 0), ?_, relV_mp.2 ⟨_, upd_same _ _ _, rfl⟩, ?_, Nat.le_refl _, (Below.refl _ _).alloc (Nat.le_refl _) _, fun c hc => by cases hc⟩
    · unfold execOp; rw [ho]
      refine run_v ?_
      simp [Instr.makeMap]
    · refine H.new hnone hin hnn ((Below.refl _ _).alloc (Nat.le_refl _) _) (Nat.le_refl _) (by simp) ⟨w.heap.size, upd_same _ _ _, #[], by show (w.heap.push _)[w.heap.size]? = _; simp, rfl⟩ (fun _ _ _ _ _ h => by cases h)
  · rename_i t l c ho
    split at e
    case h_2 => cases e
    rename_i k1 l k2 c el hl hc hd
    split at e
    case h_2 => cases e
    rename_i size z info hs hz hi
    cases hb : (l.ble c && c.ble 65536 && (info.bytes).ble 65536 && (1).ble (c * size)) with
    | false => rw [hb] at e; cases e
    | true =>
      rw [hb] at e; simp only [cond_true] at e
      split at e
      case h_2 => cases e
      rename_i ao' hao
      cases e
      simp only [Bool.and_eq_true, Nat.ble_eq] at hb
      obtain ⟨⟨⟨b1, b2⟩, b3⟩, b4⟩ := hb
      refine ⟨.slice (some ⟨w.heap.size, 0, none⟩) l c, w.alloc (.cells (((Array.range (c * size)).map (z.cells[· % z.cells.size]!)).toList ++ []).toArray el), (w.heap.size, 0, (((Array.range (c * size)).map (z.cells[· % z.cells.size]!)).toList ++ []).length), ?_, relV_sl.2 ⟨_, c, fun _ => ⟨at_upd0, room_upd (by simp)⟩, b1, fun q hq => by cases hq; rfl, rfl⟩, H.row hnone hin hnn hao (RelL.scs _) [] el, Nat.le_refl _, (Below.refl _ _).alloc (Nat.le_refl _) _, rowOf_cls hao⟩
      unfold execOp; rw [ho]
      refine run_v ?_
      have el1 := relV_sc.1 (E _ _ hl)
      have ec1 := relV_sc.1 (E _ _ hc)
      rw [el1, ec1]
      unfold Instr.makeSlice
      rw [Sem.run_bind, run_under hd]; simp only [Result.andThen_ok]
      have wl : IntKind.i64.wrap (Int.ofNat l) = l := IntWalk.i64_in _ (by simp; omega)
      have wc : IntKind.i64.wrap (Int.ofNat c) = c := IntWalk.i64_in _ (by simp; omega)
      have hmul : info.bytes * c ≤ 4294967296 := Nat.le_trans (Nat.mul_le_mul b3 b2) (by decide)
      simp only [asInt, asIntOf, Sem.run_bind, Result.andThen_ok, pure_bind, semP_run _ _ hi w, wl, wc]
      have p48 : (2 : Int) ^ 48 = 281474976710656 := rfl
      have d1 : decide ((c : Int) < 0) = false := decide_eq_false (by omega)
      have d2 : decide ((info.bytes : Int) * (c : Int) > 2 ^ 48) = false := decide_eq_false (by rw [p48, ← Int.natCast_mul]; generalize info.bytes * c = q at hmul ⊢; omega)
      have d3 : decide ((l : Int) < 0) = false := decide_eq_false (by omega)
      have d4 : decide ((l : Int) > (c : Int)) = false := decide_eq_false (by omega)
      simp only [d1, d2, d3, d4, Bool.or_false, Bool.false_eq_true, if_false, Int.toNat_natCast]
      rw [Sem.run_bind, run_askRoom]; simp only [Result.andThen_ok]
      rw [Sem.run_bind, semP_run _ _ hs w]; simp only [Result.andThen_ok]
      rw [if_neg (by omega)]
      rw [Sem.run_bind, semP_run _ _ hz w]; simp only [Result.andThen_ok]
      simp only [newRow, Sem.run_bind, run_newObj, Result.andThen_ok, Sem.run_pure, Array.toList_map, List.append_nil, World.alloc_eq]
      congr 2; congr 1; apply Array.toList_inj.1; simp
  · cases e
end
end Go.Proofs.Ythlcnklbeolhpaa.Ev

/-! EvVer -/
namespace Go.Proofs.Ythlcnklbeolhpaa.Ev
open Go Go.RowKit

/-- A state as it stands once some cells of a class may have been written by way of object i. -/
theorem RelH.bump {ρ : Rho} {st : St} {w w' : World} (H : RelH ρ st w) {i cls : Nat} {cs : T (AV × Nat)} {lo hi : Nat} {t : T Nat} (hg : st.h.get i = some (.cells cs lo hi cls t))
    {c' : T (AV × Nat)} {lo' hi' cl' : Nat} {u : T Nat} (hroot : st.h.get cls = some (.cells c' lo' hi' cl' u)) {b : Nat} {o : Int} {en : Nat} (hp : ρ i = some (b, o, en)) (q0 r : Nat)
    (hsize : w'.heap.size = w.heap.size) (hblock : ∀ b', b' ≠ b → w'.heap[b']? = w.heap[b']?) (hfroz : ∀ a, w'.frozen? a = w.frozen? a)
    (hcell : ∀ (n k : Nat), (n : Int) = o + k → ¬ (q0 ≤ k ∧ k < q0 + r) → w'.cell? ⟨b, n, none⟩ = w.cell? ⟨b, n, none⟩)
    (hsome : ∀ (n : Nat), (w.cell? ⟨b, n, none⟩).isSome → (w'.cell? ⟨b, n, none⟩).isSome) :
    RelH ρ ⟨st.h.put cls (.cells c' lo' hi' cl' (Ev.bump st.nx r q0 u)), st.nx + 1⟩ w' := by
  have hval : ∀ cl q s, ValidIn (st.h.put cls (.cells c' lo' hi' cl' (Ev.bump st.nx r q0 u))) cl q s → ValidIn st.h cl q s := by
    rintro cl q s ⟨d, l2, h2, k2, v, hr, hrs⟩
    by_cases hcl : cl = cls
    · subst hcl
      rw [T.get_put_same] at hr; cases hr
      refine ⟨_, _, _, _, _, hroot, fun s' hs' => ?_⟩
      by_cases hq : q0 ≤ q ∧ q < q0 + r
      · have h1 := hrs st.nx (by rw [get_bump, if_pos hq])
        have h2 := (H.stamp _ _ _ _ _ _ hroot).2.2 _ _ hs'
        omega
      · exact hrs s' (by rw [get_bump, if_neg hq]; exact hs')
    · rw [T.get_put_ne _ _ _ hcl] at hr
      exact ⟨d, l2, h2, k2, v, hr, hrs⟩
  have hcl : ∀ q s, (q0 ≤ q ∧ q < q0 + r) → ValidIn (st.h.put cls (.cells c' lo' hi' cl' (Ev.bump st.nx r q0 u))) cls q s → st.nx ≤ s := by
    rintro q s hq ⟨d, l2, h2, k2, v, hr, hrs⟩
    rw [T.get_put_same] at hr; cases hr
    exact hrs _ (by rw [get_bump, if_pos hq])
  obtain ⟨b1, o1, e1, hp1, hen, hcells⟩ := H.obj i _ hg
  rw [hp] at hp1; cases hp1
  have hself0 : ∀ cs2 t2, cs2 = cs → RelO ρ (st.h.put cls (.cells c' lo' hi' cl' (Ev.bump st.nx r q0 u))) w' i (.cells cs2 lo hi cls t2) := by
    rintro cs2 t2 rfl
    refine ⟨b, o, en, hp, hen, fun k k1 k2 => ?_⟩
    obtain ⟨n, hn, hf, x, hx, hv⟩ := hcells k k1 k2
    refine ⟨n, hn, by rw [hfroz]; exact hf, ?_⟩
    by_cases hq : q0 ≤ k ∧ k < q0 + r
    · obtain ⟨y, hy⟩ := Option.isSome_iff_exists.1 (hsome n (by rw [hx]; rfl))
      refine ⟨y, hy, fun v s _ hc hvl => ?_⟩
      have := hcl k s hq hvl
      have := (H.stamp _ _ _ _ _ _ hg).2.1 _ _ _ hc
      omega
    · exact ⟨x, by rw [hcell n k hn hq]; exact hx, fun v s hh hc hvl => hv v s hh hc (hval _ _ _ hvl)⟩
  have hst : ∀ j c2 lo2 hi2 cl2 t2, (st.h.put cls (.cells c' lo' hi' cl' (Ev.bump st.nx r q0 u))).get j = some (.cells c2 lo2 hi2 cl2 t2) →
      (∃ q, ρ cl2 = some q) ∧ (∀ k v s, c2.get k = some (v, s) → s < st.nx + 1) ∧ (∀ k s, t2.get k = some s → s < st.nx + 1) := by
    intro j c2 lo2 hi2 cl2 t2 hj
    by_cases hjc : j = cls
    · subst hjc
      rw [T.get_put_same] at hj; cases hj
      have S := H.stamp _ _ _ _ _ _ hroot
      refine ⟨S.1, fun k v s h => Nat.lt_succ_of_lt (S.2.1 k v s h), fun k s h => ?_⟩
      rw [get_bump] at h
      split at h
      · cases h; exact Nat.lt_succ_self _
      · exact Nat.lt_succ_of_lt (S.2.2 k s h)
    · rw [T.get_put_ne _ _ _ hjc] at hj
      have S := H.stamp _ _ _ _ _ _ hj
      exact ⟨S.1, fun k v s h => Nat.lt_succ_of_lt (S.2.1 k v s h), fun k s h => Nat.lt_succ_of_lt (S.2.2 k s h)⟩
  have hoth : ∀ j ob', j ≠ i → (st.h.put cls (.cells c' lo' hi' cl' (Ev.bump st.nx r q0 u))).get j = some ob' → ∃ ob, st.h.get j = some ob ∧ ob.noW = ob'.noW := by
    intro j ob' _ hj
    by_cases hjc : j = cls
    · subst hjc
      rw [T.get_put_same] at hj; cases hj
      exact ⟨_, hroot, rfl⟩
    · rw [T.get_put_ne _ _ _ hjc] at hj
      exact ⟨_, hj, rfl⟩
  by_cases hic : i = cls
  · subst hic
    rw [hg] at hroot; cases hroot
    exact H.written (hit := fun q => q0 ≤ q ∧ q < q0 + r) hg hp hoth hst hcl hval hsize hblock hfroz hcell hsome (T.get_put_same _ _ _) rfl (hself0 _ _ rfl)
  · exact H.written (hit := fun q => q0 ≤ q ∧ q < q0 + r) hg hp hoth hst hcl hval hsize hblock hfroz hcell hsome (by rw [T.get_put_ne _ _ _ hic]; exact hg) rfl (hself0 _ _ rfl)

/-- A version of an object is added to a class. -/
theorem RelH.add {ρ : Rho} {st : St} {w : World} (H : RelH ρ st w) {i n' : Nat} (hnone : ρ i = none) (hin : i < n') (hnn : st.nx ≤ n') {c : T (AV × Nat)} {lo hi cls : Nat} {p : Nat × Int × Nat}
    (hp' : p.1 < w.heap.size) (hself : RelO (upd ρ i p) (st.h.put i (.cells c lo hi cls .leaf)) w i (.cells c lo hi cls .leaf)) (hcls : ∃ q, ρ cls = some q)
    (hst : ∀ k v s, c.get k = some (v, s) → s < n')
    (hsep : ∀ j o q, st.h.get j = some o → ρ j = some q → q.1 = p.1 → o.cls? = some cls ∧ q.2.1 = p.2.1) :
    RelH (upd ρ i p) ⟨st.h.put i (.cells c lo hi cls .leaf), n'⟩ w := by
  have hx : Ext ρ (upd ρ i p) := ext_upd p hnone
  have get : ∀ j o, j ≠ i → (st.h.put i (.cells c lo hi cls .leaf)).get j = some o → st.h.get j = some o := fun j o hj h => by rw [T.get_put_ne _ _ _ hj] at h; exact h
  refine ⟨fun j o hg => ?_, fun j q hq => ?_, fun j k oj ok q r hj hk hjk h1 h2 h3 => ?_, fun j c2 lo2 hi2 cls2 t2 hg => ?_, Nat.lt_of_lt_of_le H.pos hnn⟩
  · by_cases hj : j = i
    · subst hj; simp only [T.get_put_same, Option.some.injEq] at hg; subst hg; exact hself
    · have hg' := get j o hj hg
      refine (H.obj j o hg').mono hx (fun q _ => rfl) (fun cl k s hcl => ?_)
      rintro ⟨d, l2, h2, k2, r, hr, hrs⟩
      have : cl ≠ i := by
        rintro rfl
        cases o with
        | map _ _ => simp [AO.cls?] at hcl
        | cells c lo hi cls t =>
          simp only [AO.cls?, Option.some.injEq] at hcl
          obtain ⟨q, hq⟩ := (H.stamp _ _ _ _ _ _ hg').1
          rw [hcl, hnone] at hq; cases hq
      exact ⟨d, l2, h2, k2, r, get cl _ this hr, hrs⟩
  · by_cases hj : j = i
    · subst hj; rw [upd_same] at hq; cases hq; exact ⟨hin, hp'⟩
    · rw [upd_ne _ _ hj] at hq
      have := H.dom j q hq
      exact ⟨Nat.lt_of_lt_of_le this.1 hnn, this.2⟩
  · by_cases hj' : j = i
    · subst hj'
      rw [upd_same] at h1; cases h1
      have hkj : k ≠ j := fun e => hjk e.symm
      rw [upd_ne _ _ hkj] at h2
      obtain ⟨a1, a2⟩ := hsep k ok r (get k ok hkj hk) h2 h3.symm
      simp only [T.get_put_same, Option.some.injEq] at hj
      subst hj
      exact ⟨cls, rfl, a1, a2.symm⟩
    · by_cases hk' : k = i
      · subst hk'
        rw [upd_same] at h2; cases h2
        rw [upd_ne _ _ hj'] at h1
        obtain ⟨a1, a2⟩ := hsep j oj q (get j oj hj' hj) h1 h3
        simp only [T.get_put_same, Option.some.injEq] at hk
        subst hk
        exact ⟨cls, a1, rfl, a2⟩
      · rw [upd_ne _ _ hj'] at h1
        rw [upd_ne _ _ hk'] at h2
        exact H.sep j k oj ok q r (get j oj hj' hj) (get k ok hk' hk) hjk h1 h2 h3
  · by_cases hj : j = i
    · subst hj; simp only [T.get_put_same, Option.some.injEq] at hg
      cases hg
      obtain ⟨q, hq⟩ := hcls
      exact ⟨⟨q, hx _ _ hq⟩, hst, fun k s h => by simp [T.get_leaf] at h⟩
    · have S := H.stamp _ _ _ _ _ _ (get j _ hj hg)
      obtain ⟨q, hq⟩ := S.1
      exact ⟨⟨q, hx _ _ hq⟩, fun k v s h => Nat.lt_of_lt_of_le (S.2.1 k v s h) hnn, fun k s h => Nat.lt_of_lt_of_le (S.2.2 k s h) hnn⟩

/-- Cells that are stored one behind the other: the world behind it. -/
theorem run_storeCells_desc (P : Program) {b n0 : Nat} : ∀ {xs : List Value} {j : Nat} {w : World} (a0 : Addr), a0.block = b → a0.spot = none → a0.off + j = n0 → (∀ x ∈ xs, x.oneCell' = true) →
    (∀ q, q < xs.length → (∃ y, w.cell? ⟨b, n0 + q, none⟩ = some y) ∧ w.frozen? ⟨b, n0 + q, none⟩ = false) →
    ∃ w', (storeCells a0 xs j).run P w = .ok () w' ∧ w'.heap.size = w.heap.size ∧ (∀ b', b' ≠ b → w'.heap[b']? = w.heap[b']?) ∧ (∀ a, w'.frozen? a = w.frozen? a) ∧
      (∀ n, ¬ (n0 ≤ n ∧ n < n0 + xs.length) → w'.cell? ⟨b, n, none⟩ = w.cell? ⟨b, n, none⟩) ∧ (∀ q x, xs[q]? = some x → w'.cell? ⟨b, n0 + q, none⟩ = some x) ∧
      w'.os = w.os ∧ w'.tape = w.tape ∧ w'.output = w.output
  | [], j, w, a0, _, _, _, _, _ => ⟨w, rfl, rfl, fun _ _ => rfl, fun _ => rfl, fun _ _ => rfl, fun q x h => by simp at h, rfl, rfl, rfl⟩
  | x :: xs, j, w, a0, hb, hs, ho, hone, hex => by
    have ea : a0.add j = ⟨b, n0, none⟩ := by
      unfold Addr.add
      by_cases hj : j = 0
      · rw [if_pos hj]; cases a0; simp only at hb hs ho; subst hb; subst hs; subst hj; congr 1
      · rw [if_neg hj, hb, ho]
    obtain ⟨⟨y, hy⟩, hf⟩ := hex 0 (by simp)
    simp only [Nat.add_zero] at hy hf
    obtain ⟨w', r1, r2, r3, r4, r5, r6, r7⟩ := run_storeCells_desc P (b := b) (n0 := n0 + 1) (xs := xs) (j := j + 1) (w := w.setCell ⟨b, n0, none⟩ x) a0 hb hs (by omega) (fun z hz => hone z (List.mem_cons_of_mem _ hz))
      (fun q hq => by
        obtain ⟨⟨z, hz⟩, hf2⟩ := hex (q + 1) (by simp; omega)
        rw [show n0 + 1 + q = n0 + (q + 1) by omega]
        exact ⟨⟨z, by rw [World.cell?_setCell_other _ _ _ _ (off_ne (by omega))]; exact hz⟩, by simpa using hf2⟩)
    refine ⟨w', ?_, by rw [r2]; simp, fun b' hb' => by rw [r3 b' hb', Below.heap_setCell _ _ _ _ hb'], fun a => by rw [r4]; simp, fun n hn => ?_, fun q z hq => ?_, r7.1, r7.2.1, r7.2.2⟩
    · unfold storeCells
      rw [Sem.run_bind, ea, run_store P w _ _ _ (hone x (by simp)), hy]
      simp only [hf, Bool.false_eq_true, if_false, Result.andThen_ok]
      exact r1
    · rw [r5 n (by simp at hn ⊢; omega), World.cell?_setCell_other _ _ _ _ (off_ne (by simp at hn; omega))]
    · cases q with
      | zero =>
        simp at hq; subst hq
        rw [Nat.add_zero, r5 n0 (by omega), World.cell?_setCell_same _ _ _ hy]
      | succ q => rw [show n0 + (q + 1) = n0 + 1 + q by omega]; exact r6 q z (by simpa using hq)
end Go.Proofs.Ythlcnklbeolhpaa.Ev

/-! EvApp -/
namespace Go.Proofs.Ythlcnklbeolhpaa.Ev
open Go Go.RowKit
section
variable {P : Program} {w : World}

theorem growBy_le (newLen : Nat) : ∀ (r c B : Nat), c ≤ B → newLen + (newLen + 768) / 4 ≤ B → Builtin.growBy newLen r c ≤ B
  | 0, c, B, h, _ => h
  | r + 1, c, B, h, k => by
    unfold Builtin.growBy
    by_cases hc : c ≥ newLen
    · rw [if_pos hc]; exact h
    · rw [if_neg hc]; exact growBy_le newLen r _ B (by omega) k
theorem nextslicecap_le {need old : Nat} (h : old < need) : Builtin.nextslicecap need old ≤ 2 * need + 192 := by
  unfold Builtin.nextslicecap
  split
  · omega
  · split
    · omega
    · exact growBy_le _ _ _ _ (by omega) (by omega)

theorem append_fits {at' : Array TypeId} {ty sT xT e : TypeId} {d : TypeDesc} {info : TypeInfo} {base : Option Addr} {n c m : Nat} {x : Value} {new : Array Value} {w' : World}
    (h0 : at'[0]? = some sT) (h1 : at'[1]? = some xT) (hs : P.underlying sT = some (.slice e)) (hx : P.underlying xT = some d) (hz : ∀ k, d ≠ .int k) (hi : semP P (typeInfo e) = some info)
    (hm : (Builtin.lenOf x).run P w = .ok m w) (hc : (Builtin.firstCells info.size m x).run P w = .ok new w) (hfit : n + m ≤ c)
    (hst : (match base with | some a => storeCells (a.add (n * info.size)) new.toList | none => pure () : Sem Unit).run P w = .ok () w') :
    (Builtin.append_ at' ty #[.slice base n c, x]).run P w = .ok (.slice base (n + m) c) w' := by
  unfold Builtin.append_
  simp only [h0, h1]
  simp only [List.getElem?_toArray, List.getElem?_cons_zero, List.getElem?_cons_succ, Sem.run_bind, run_under hs, run_under hx, info_size hi, Result.andThen_ok, Sem.run_pure, Bool.false_eq_true, if_false, hm, hfit, if_true, Bool.not_false, hc]
  cases base with
  | none => simp only [Sem.run_pure, Result.ok.injEq, true_and] at hst; subst hst; rfl
  | some a => simp only [Sem.run_bind, hst, Result.andThen_ok, Sem.run_pure]

theorem append_grows {at' : Array TypeId} {ty sT xT e : TypeId} {d : TypeDesc} {info : TypeInfo} {z : Value} {base : Option Addr} {n c m : Nat} {x : Value} {old new : Array Value}
    (h0 : at'[0]? = some sT) (h1 : at'[1]? = some xT) (hs : P.underlying sT = some (.slice e)) (hx : P.underlying xT = some d) (hz : ∀ k, d ≠ .int k) (hi : semP P (typeInfo e) = some info) (hzz : info.zero = some z)
    (hm : (Builtin.lenOf x).run P w = .ok m w) (hc : (Builtin.firstCells info.size m x).run P w.drew = .ok new w.drew) (ho : (Builtin.firstCells info.size n (.slice base n c)).run P w.drew = .ok old w.drew)
    (hfit : c < n + m) (hb : n + m ≤ 131072) (hby : info.bytes ≤ 65536) :
    ∃ cap, n + m ≤ cap ∧ (Builtin.append_ at' ty #[.slice base n c, x]).run P w = .ok (.slice (some ⟨w.heap.size, 0, none⟩) (n + m) cap) (w.drew.alloc (.cells (old ++ new ++ Builtin.zeroCells z.cells (cap - (n + m))) e)) := by
  have hinfo := semP_run _ _ hi
  have hzv : ∀ w1 : World, (zeroValue e).run P w1 = .ok z w1 := fun w1 => by unfold zeroValue; rw [Sem.run_bind, hinfo w1]; simp only [Result.andThen_ok, hzz, Sem.run_pure]
  have k1 : ¬ n + m ≤ c := by omega
  have k2 : ¬ (((n + m : Nat) : Int) > IntKind.i64.max ∧ (False ∨ info.bytes = 0)) := by
    rintro ⟨h, _⟩
    have : IntKind.i64.max = 9223372036854775807 := rfl
    omega
  have k3 : ¬ Builtin.nextslicecap (n + m) c * info.bytes > 2 ^ 48 := by
    have h1 := nextslicecap_le hfit
    have h2 : Builtin.nextslicecap (n + m) c * info.bytes ≤ 262336 * 65536 := Nat.mul_le_mul (by omega) hby
    have h3 : (2 : Nat) ^ 48 = 281474976710656 := rfl
    omega
  refine ⟨(n + m) + (w.tape w.drawn (.appendCap (n + m) c e)) % (2 ^ 63 - (n + m)), by omega, ?_⟩
  unfold Builtin.append_
  simp only [h0, h1]
  simp only [List.getElem?_toArray, List.getElem?_cons_zero, List.getElem?_cons_succ, Sem.run_bind, run_under hs, run_under hx, info_size hi, Result.andThen_ok, Sem.run_pure, Bool.false_eq_true, if_false, hm, k1, hinfo, k2, k3, run_choose, Question.forced, Question.cut, World.drew_eq, run_askRoom, ho, Bool.not_false, if_true, hc, hzv, newRow, run_newObj, World.alloc_eq, World.size_drew]

theorem append_fits_z {at' : Array TypeId} {ty sT xT e : TypeId} {kx k : IntKind} {info : TypeInfo} {z : Value} {base : Option Addr} {n c m : Nat} {w' : World}
    (h0 : at'[0]? = some sT) (h1 : at'[1]? = some xT) (hs : P.underlying sT = some (.slice e)) (hx : P.underlying xT = some (.int kx)) (hi : semP P (typeInfo e) = some info) (hzz : info.zero = some z)
    (hm : m ≤ 65536) (hby : info.bytes ≤ 65536) (hfit : n + m ≤ c)
    (hst : (match base with | some a => storeCells (a.add (n * info.size)) (if m * info.size = 0 then #[] else Builtin.zeroCells z.cells m).toList | none => pure () : Sem Unit).run P w = .ok () w') :
    (Builtin.append_ at' ty #[.slice base n c, .int k (m : Int)]).run P w = .ok (.slice base (n + m) c) w' := by
  have hinfo := semP_run _ _ hi
  have hzv : ∀ w1 : World, (zeroValue e).run P w1 = .ok z w1 := fun w1 => by unfold zeroValue; rw [Sem.run_bind, hinfo w1]; simp only [Result.andThen_ok, hzz, Sem.run_pure]
  have wm : IntKind.i64.wrap (m : Int) = m := IntWalk.i64_in _ (by omega)
  have c1 : ¬ (m : Int) < 0 := by omega
  have hmul : m * info.bytes ≤ 4294967296 := Nat.le_trans (Nat.mul_le_mul hm hby) (by decide)
  have p48 : (2 : Int) ^ 48 = 281474976710656 := rfl
  have c2 : ¬ (m : Int) * (info.bytes : Int) > 2 ^ 48 := by rw [p48, ← Int.natCast_mul]; generalize m * info.bytes = q at hmul ⊢; omega
  unfold Builtin.append_
  simp only [h0, h1]
  by_cases h0' : m * info.size = 0
  · rw [if_pos h0'] at hst
    simp only [List.getElem?_toArray, List.getElem?_cons_zero, List.getElem?_cons_succ, Sem.run_bind, run_under hs, run_under hx, info_size hi, Result.andThen_ok, Sem.run_pure, if_true, asInt, asIntOf, pure_bind, wm, c1, if_false, hinfo, c2, Int.toNat_natCast, hfit, Bool.not_true, Bool.false_eq_true, h0']
    cases base with
    | none => simp only [Sem.run_pure, Result.ok.injEq, true_and] at hst; subst hst; rfl
    | some a => simp only [Sem.run_bind, hst, Result.andThen_ok, Sem.run_pure]
  · rw [if_neg h0'] at hst
    simp only [List.getElem?_toArray, List.getElem?_cons_zero, List.getElem?_cons_succ, Sem.run_bind, run_under hs, run_under hx, info_size hi, Result.andThen_ok, Sem.run_pure, if_true, asInt, asIntOf, pure_bind, wm, c1, if_false, hinfo, c2, Int.toNat_natCast, hfit, Bool.not_true, Bool.false_eq_true, h0', hzv]
    cases base with
    | none => simp only [Sem.run_pure, Result.ok.injEq, true_and] at hst; subst hst; rfl
    | some a => simp only [Sem.run_bind, hst, Result.andThen_ok, Sem.run_pure]

theorem append_grows_z {at' : Array TypeId} {ty sT xT e : TypeId} {kx k : IntKind} {info : TypeInfo} {z : Value} {base : Option Addr} {n c m : Nat} {old : Array Value}
    (h0 : at'[0]? = some sT) (h1 : at'[1]? = some xT) (hs : P.underlying sT = some (.slice e)) (hx : P.underlying xT = some (.int kx)) (hi : semP P (typeInfo e) = some info) (hzz : info.zero = some z)
    (hm : m ≤ 65536) (ho : (Builtin.firstCells info.size n (.slice base n c)).run P w.drew = .ok old w.drew)
    (hfit : c < n + m) (hb : n + m ≤ 131072) (hby : info.bytes ≤ 65536) (hms : m * info.size ≠ 0) :
    ∃ cap, n + m ≤ cap ∧ (Builtin.append_ at' ty #[.slice base n c, .int k (m : Int)]).run P w = .ok (.slice (some ⟨w.heap.size, 0, none⟩) (n + m) cap) (w.drew.alloc (.cells (old ++ Builtin.zeroCells z.cells m ++ Builtin.zeroCells z.cells (cap - (n + m))) e)) := by
  have hinfo := semP_run _ _ hi
  have hzv : ∀ w1 : World, (zeroValue e).run P w1 = .ok z w1 := fun w1 => by unfold zeroValue; rw [Sem.run_bind, hinfo w1]; simp only [Result.andThen_ok, hzz, Sem.run_pure]
  have wm : IntKind.i64.wrap (m : Int) = m := IntWalk.i64_in _ (by omega)
  have c1 : ¬ (m : Int) < 0 := by omega
  have hmul : m * info.bytes ≤ 4294967296 := Nat.le_trans (Nat.mul_le_mul hm hby) (by decide)
  have p48 : (2 : Int) ^ 48 = 281474976710656 := rfl
  have c2 : ¬ (m : Int) * (info.bytes : Int) > 2 ^ 48 := by rw [p48, ← Int.natCast_mul]; generalize m * info.bytes = q at hmul ⊢; omega
  have k1 : ¬ n + m ≤ c := by omega
  have k2 : ¬ (((n + m : Nat) : Int) > IntKind.i64.max) := by
    have : IntKind.i64.max = 9223372036854775807 := rfl
    omega
  have k3 : ¬ Builtin.nextslicecap (n + m) c * info.bytes > 2 ^ 48 := by
    have h1 := nextslicecap_le hfit
    have h2 : Builtin.nextslicecap (n + m) c * info.bytes ≤ 262336 * 65536 := Nat.mul_le_mul (by omega) hby
    have h3 : (2 : Nat) ^ 48 = 281474976710656 := rfl
    omega
  have k2' : ¬ (((n + m : Nat) : Int) > IntKind.i64.max ∧ (True ∨ info.bytes = 0)) := fun h => k2 h.1
  refine ⟨(n + m) + (w.tape w.drawn (.appendCap (n + m) c e)) % (2 ^ 63 - (n + m)), by omega, ?_⟩
  unfold Builtin.append_
  simp only [h0, h1]
  simp only [List.getElem?_toArray, List.getElem?_cons_zero, List.getElem?_cons_succ, Sem.run_bind, run_under hs, run_under hx, info_size hi, Result.andThen_ok, Sem.run_pure, if_true, asInt, asIntOf, pure_bind, wm, c1, if_false, hinfo, c2, Int.toNat_natCast, k1, k2', k3, run_choose, Question.forced, Question.cut, World.drew_eq, run_askRoom, ho, Bool.not_true, Bool.false_eq_true, hms, hzv, newRow, run_newObj, World.alloc_eq, World.size_drew]
end
end Go.Proofs.Ythlcnklbeolhpaa.Ev

/-! EvApp2 -/
namespace Go.Proofs.Ythlcnklbeolhpaa.Ev
open Go Go.RowKit
section
variable {P : Program} {ρ : Rho} {st : St} {w : World}

theorem zeroCells_zero (z : Array Value) : Builtin.zeroCells z 0 = #[] := by unfold Builtin.zeroCells; simp

theorem firstCells_sl {size n c : Nat} {a : Addr} : Builtin.firstCells size n (.slice (some a) n c) = loadCells a (n * size) := rfl

theorem addedA_sound (H : RelH ρ st w) {at' : Array TypeId} {ty sT xT e : TypeId} {d : TypeDesc} {info : TypeInfo} {z : Value} {zeros : Bool} {x : AV} {y : Value} {m : Nat} {new : List AV}
    (h0 : at'[0]? = some sT) (h1 : at'[1]? = some xT) (hs : P.underlying sT = some (.slice e)) (hx : P.underlying xT = some d) (hzd : if zeros then ∃ k, d = .int k else ∀ k, d ≠ .int k) (hi : semP P (typeInfo e) = some info) (hzz : info.zero = some z)
    (hxy : RelV ρ x y) (ea : addedA st info z zeros x = some (m, new)) (hlen : new.length = m * info.size) (hsz : 1 ≤ info.size) (hm : m ≤ 65536) (hby : info.bytes ≤ 65536) :
    ∃ arr : Array Value, RelL ρ new arr.toList ∧
      (∀ base n c w', n + m ≤ c → (match base with | some a => storeCells (a.add (n * info.size)) arr.toList | none => pure () : Sem Unit).run P w = .ok () w' →
        (Builtin.append_ at' ty #[.slice base n c, y]).run P w = .ok (.slice base (n + m) c) w') ∧
      (∀ base n c old, 0 < m → c < n + m → n + m ≤ 131072 → (Builtin.firstCells info.size n (.slice base n c)).run P w.drew = .ok old w.drew → ∃ cap, n + m ≤ cap ∧
        (Builtin.append_ at' ty #[.slice base n c, y]).run P w = .ok (.slice (some ⟨w.heap.size, 0, none⟩) (n + m) cap) (w.drew.alloc (.cells (old ++ arr ++ Builtin.zeroCells z.cells (cap - (n + m))) e))) := by
  cases zeros with
  | true =>
    obtain ⟨kx, rfl⟩ : ∃ k, d = .int k := by simpa using hzd
    simp only [addedA, cond_true] at ea
    split at ea
    case h_2 => cases ea
    rename_i k m'
    cases hb : m'.ble 65536 with
    | false => rw [hb] at ea; cases ea
    | true =>
      rw [hb] at ea; simp only [cond_true, Option.some.injEq, Prod.mk.injEq] at ea
      obtain ⟨rfl, rfl⟩ := ea
      rw [relV_sc.1 hxy]
      refine ⟨Builtin.zeroCells z.cells m', RelL.scs _, fun base n c w' hfit hst => ?_, fun base n c old hpos hfit hbig ho => ?_⟩
      · refine append_fits_z h0 h1 hs hx hi hzz hm hby hfit ?_
        by_cases h0 : m' * info.size = 0
        · have : m' = 0 := by
            rcases Nat.mul_eq_zero.1 h0 with h | h
            · exact h
            · omega
          subst this
          rw [if_pos h0]; rw [zeroCells_zero] at hst; exact hst
        · rw [if_neg h0]; exact hst
      · exact append_grows_z h0 h1 hs hx hi hzz hm ho hfit hbig hby (Nat.pos_iff_ne_zero.1 (Nat.mul_pos hpos hsz))
  | false =>
    have hzd' : ∀ k, d ≠ .int k := by simpa using hzd
    simp only [addedA, cond_false] at ea
    have fin : ∀ arr : Array Value, RelL ρ new arr.toList → (Builtin.lenOf y).run P w = .ok m w → (∀ w1 : World, (w1 = w ∨ w1 = w.drew) → (Builtin.firstCells info.size m y).run P w1 = .ok arr w1) →
        ∃ arr : Array Value, RelL ρ new arr.toList ∧
      (∀ base n c w', n + m ≤ c → (match base with | some a => storeCells (a.add (n * info.size)) arr.toList | none => pure () : Sem Unit).run P w = .ok () w' →
        (Builtin.append_ at' ty #[.slice base n c, y]).run P w = .ok (.slice base (n + m) c) w') ∧
      (∀ base n c old, 0 < m → c < n + m → n + m ≤ 131072 → (Builtin.firstCells info.size n (.slice base n c)).run P w.drew = .ok old w.drew → ∃ cap, n + m ≤ cap ∧
        (Builtin.append_ at' ty #[.slice base n c, y]).run P w = .ok (.slice (some ⟨w.heap.size, 0, none⟩) (n + m) cap) (w.drew.alloc (.cells (old ++ arr ++ Builtin.zeroCells z.cells (cap - (n + m))) e))) := by
      intro arr hr hl hf
      exact ⟨arr, hr, fun base n c w' hfit hst => append_fits h0 h1 hs hx hzd' hi hl (hf w (.inl rfl)) hfit hst,
        fun base n c old _ hfit hbig ho => append_grows h0 h1 hs hx hzd' hi hzz hl (hf _ (.inr rfl)) ho hfit hbig hby⟩
    split at ea
    · rename_i j k n zz c
      split at ea
      case h_2 => cases ea
      rename_i l hl
      simp only [Option.some.injEq, Prod.mk.injEq] at ea
      obtain ⟨rfl, rfl⟩ := ea
      obtain ⟨a, cap, ha, hn, _, rfl⟩ := relV_sl.1 hxy
      by_cases hn0 : n = 0
      · subst hn0
        simp only [Nat.zero_mul, rdCells, Option.some.injEq] at hl
        subst hl
        exact fin #[] (RelL.nil_iff.2 rfl) rfl (fun w1 _ => by unfold Builtin.firstCells; simp only [Nat.zero_mul]; rfl)
      · obtain ⟨xs, g1, g2, g3⟩ := run_loadCells_rel (P := P) H hl (ha (by omega)).1
        obtain ⟨xs', g1', g2', g3'⟩ := run_loadCells_rel (P := P) H.drew hl (ha (by omega)).1
        have : xs' = xs := by
          obtain ⟨xs2, k1, k2, k3⟩ := H.rds hl (ha (by omega)).1
          obtain ⟨xs3, q1, q2, q3⟩ := H.drew.rds hl (ha (by omega)).1
          have r1 : (loadCells a (n * info.size)).run P w = .ok xs2.toArray w := by rw [← k2]; exact run_loadCells_list (P := P) w a xs2 k3
          have r2 : (loadCells a (n * info.size)).run P w.drew = .ok xs2.toArray w.drew := by rw [← k2]; exact run_loadCells_list (P := P) w.drew a xs2 k3
          have s1 := (Result.ok.inj (g3.symm.trans r1)).1
          have s2 := (Result.ok.inj (g3'.symm.trans r2)).1
          simp at s1 s2
          rw [s1, s2]
        subst this
        refine fin xs'.toArray (by simpa using g1) rfl (fun w1 hw1 => ?_)
        rcases hw1 with rfl | rfl
        · exact g3
        · exact g3'
    · rename_i n c
      cases hb : n.beq 0 with
      | false => rw [hb] at ea; cases ea
      | true =>
        rw [hb] at ea; simp only [cond_true, Option.some.injEq, Prod.mk.injEq] at ea
        obtain ⟨rfl, rfl⟩ := ea
        have hn0 : n = 0 := Nat.eq_of_beq_eq_true hb
        subst hn0
        have hy := relV_sc.1 hxy
        subst hy
        refine fin #[] (RelL.nil_iff.2 rfl) rfl (fun w1 _ => rfl)
    · rename_i b
      simp only [Option.some.injEq, Prod.mk.injEq] at ea
      obtain ⟨rfl, rfl⟩ := ea
      have hy := relV_sc.1 hxy
      subst hy
      refine fin (b.data.map fun b => .int .u8 b.toNat) ?_ rfl (fun w1 _ => ?_)
      · have := RelL.scs (ρ := ρ) ((b.data.toList.map fun b => Value.int .u8 b.toNat))
        rw [Array.toList_map]
        rw [show (b.data.toList.map fun b => AV.sc (Value.int .u8 b.toNat)) = scs (b.data.toList.map fun b => Value.int .u8 b.toNat) by simp [scs]]
        exact this
      · have : b.extract 0 b.size = b := by simp
        show (pure ((b.extract 0 b.size).data.map fun b => Value.int .u8 b.toNat) : Sem (Array Value)).run P w1 = _
        rw [this]; rfl
    · cases ea

/-- Cells that are there are loaded, whatever they hold. -/
theorem loaded (w1 : World) {a : Addr} {N : Nat} (h : ∀ q, q < N → ∃ y, w1.cell? (a.add q) = some y) :
    ∃ xs : List Value, xs.length = N ∧ (loadCells a N).run P w1 = .ok xs.toArray w1 ∧ ∀ q y, xs[q]? = some y → w1.cell? (a.add q) = some y := by
  refine ⟨(List.range N).map fun q => (w1.cell? (a.add q)).getD undef, by simp, ?_, ?_⟩
  · have hl : ((List.range N).map fun q => (w1.cell? (a.add q)).getD undef).length = N := by simp
    have := run_loadCells_list (P := P) w1 a ((List.range N).map fun q => (w1.cell? (a.add q)).getD undef) (fun q v hq => ?_)
    · rw [hl] at this; exact this
    · simp only [List.getElem?_map, Option.map_eq_some_iff] at hq
      obtain ⟨q', hq1, hq2⟩ := hq
      have hlt : q < N := by
        by_cases hh : q < N
        · exact hh
        · rw [List.getElem?_eq_none (by simp; omega)] at hq1; cases hq1
      rw [List.getElem?_range hlt] at hq1; cases hq1
      obtain ⟨y, hy⟩ := h q hlt
      rw [hy] at hq2 ⊢; simp at hq2; rw [hq2]
  · intro q y hq
    simp only [List.getElem?_map, Option.map_eq_some_iff] at hq
    obtain ⟨q', hq1, hq2⟩ := hq
    have hlt : q < N := by
      by_cases hh : q < N
      · exact hh
      · rw [List.getElem?_eq_none (by simp; omega)] at hq1; cases hq1
    rw [List.getElem?_range hlt] at hq1; cases hq1
    obtain ⟨y', hy⟩ := h q hlt
    rw [hy] at hq2 ⊢; simp at hq2; rw [hq2]

theorem RelH.freshNone {ρ : Rho} {st : St} {w : World} (H : RelH ρ st w) : ρ st.nx = none := H.none_nx (Nat.le_refl _)

theorem one'_of {v : AV} {x : Value} (h : RelV ρ v x) (ho : v.one = true) : x.oneCell' = true := by
  have := h.one ho
  cases x <;> first | rfl | exact this.elim

/-- A version, where the append lies in place. -/
theorem versionA_fits (H : RelH ρ st w) {i k n m size : Nat} {c : Option Nat} {new : List AV} {v : AV} {st' : St} (e : versionA st i k n m size c new = some (v, st'))
    {a : Addr} {cap : Nat} (ha : At ρ i k a) (hroom : Room ρ i (k + cap * size)) (hcap : ∀ q, c = some q → cap = q) {xs : List Value} (hl : RelL ρ new xs) (hlen : new.length = m * size) (hfit : n + m ≤ cap) :
    ∃ w', (storeCells (a.add (n * size)) xs).run P w = .ok () w' ∧ ∃ ρ', RelV ρ' v (.slice (some a) (n + m) cap) ∧ RelH ρ' st' w' ∧ Fr ρ st w ρ' st' w' := by
  unfold versionA at e
  split at e
  case h_2 => cases e
  rename_i cs lo hi cls t hg
  cases hb : (lo.ble k && (k + n * size).ble hi && allOne new) with
  | false => rw [hb] at e; cases e
  | true =>
    rw [hb] at e; simp only [cond_true] at e
    simp only [Bool.and_eq_true, Nat.ble_eq] at hb
    obtain ⟨⟨b1, b2⟩, b3⟩ := hb
    split at e
    case h_2 => cases e
    rename_i c' lo' hi' cl' u hroot
    simp only [Option.some.injEq, Prod.mk.injEq] at e
    obtain ⟨rfl, rfl⟩ := e
    obtain ⟨b, o, en, hp, hen, hcells⟩ := H.obj i _ hg
    obtain ⟨_, _, _, hp2, hroom'⟩ := hroom
    rw [hp] at hp2; cases hp2
    have hm1 : (n + m) * size = n * size + m * size := Nat.add_mul _ _ _
    have hm2 : (n + m) * size ≤ cap * size := Nat.mul_le_mul_right _ hfit
    have hxl := hl.length
    obtain ⟨_, _, _, hp3, ab, as, ao⟩ := ha
    rw [hp] at hp3; cases hp3
    -- where the new cells lie
    have ha' : (a.add (n * size)).block = b ∧ (a.add (n * size)).spot = none ∧ (a.add (n * size)).off = a.off + n * size := by
      unfold Addr.add
      by_cases h0 : n * size = 0
      · rw [if_pos h0]; exact ⟨ab, as, by omega⟩
      · rw [if_neg h0]; exact ⟨ab, rfl, rfl⟩
    have hex : ∀ q, q < xs.length → (∃ y, w.cell? ⟨b, (a.off + n * size) + q, none⟩ = some y) ∧ w.frozen? ⟨b, (a.off + n * size) + q, none⟩ = false := by
      intro q hq
      obtain ⟨m', hm', hf, y, hy, _⟩ := hcells (k + n * size + q) (by omega) (by omega)
      have : m' = a.off + n * size + q := by omega
      subst this
      exact ⟨⟨y, hy⟩, hf⟩
    obtain ⟨w', r1, r2, r3, r4, r5, r6, r7, r8, r9⟩ := run_storeCells_desc P (b := b) (n0 := a.off + n * size) (xs := xs) (j := 0) (w := w) (a.add (n * size)) ha'.1 ha'.2.1 (by rw [ha'.2.2]; omega)
      (fun x hx => by
        obtain ⟨q, hq, hqx⟩ := List.getElem_of_mem hx
        have hq' : q < new.length := by omega
        obtain ⟨x', h1, h2⟩ := hl.get q _ (List.getElem?_eq_getElem hq')
        rw [List.getElem?_eq_getElem hq, hqx] at h1; cases h1
        exact one'_of h2 (allOne_get b3 q _ (List.getElem?_eq_getElem hq'))) hex
    have H1 := H.bump hg hroot hp (k + n * size) (m * size) r2 r3 r4 (fun n1 k1 h1 h2 => r5 n1 (by omega)) (fun n1 h1 => by
      by_cases hin : a.off + n * size ≤ n1 ∧ n1 < a.off + n * size + xs.length
      · have := r6 (n1 - (a.off + n * size)) (xs[n1 - (a.off + n * size)]'(by omega)) (List.getElem?_eq_getElem (by omega))
        rw [show a.off + n * size + (n1 - (a.off + n * size)) = n1 by omega] at this
        rw [this]; rfl
      · rw [r5 n1 hin]; exact h1)
    have S := H.stamp _ _ _ _ _ _ hg
    have hnx := H.freshNone
    have hx : Ext ρ (upd ρ st.nx (b, o, en)) := ext_upd _ hnx
    have hclsne : cls ≠ st.nx := by
      obtain ⟨q, hq⟩ := S.1
      have := (H.dom _ _ hq).1
      omega
    refine ⟨w', r1, upd ρ st.nx (b, o, en), ?_, ?_, ?_⟩
    · exact relV_sl.2 ⟨a, cap, fun _ => ⟨⟨b, o, en, upd_same _ _ _, ab, as, ao⟩, b, o, en, upd_same _ _ _, hroom'⟩, hfit, hcap, rfl⟩
    · refine H1.add (i := st.nx) (n' := st.nx + 1) hnx (Nat.lt_succ_self _) (Nat.le_refl _) (p := (b, o, en)) (H1.dom i _ hp).2 ?_ S.1 (fun k1 v1 s1 h1 => ?_) (fun j ob q hj hq hqb => ?_)
      · refine ⟨b, o, en, upd_same _ _ _, by omega, fun k1 g1 g2 => ?_⟩
        obtain ⟨n1, hn1, hf1, x1, hx1, hv1⟩ := hcells k1 (by omega) g2
        refine ⟨n1, hn1, by rw [r4]; exact hf1, ?_⟩
        by_cases hin : k + n * size ≤ k1 ∧ k1 < k + n * size + m * size
        · have hq : k1 - (k + n * size) < new.length := by omega
          obtain ⟨y, hy1, hy2⟩ := hl.get _ _ (List.getElem?_eq_getElem hq)
          have hcell := r6 _ _ hy1
          rw [show a.off + n * size + (k1 - (k + n * size)) = n1 by omega] at hcell
          refine ⟨y, hcell, fun v2 s2 _ hc2 _ => ?_⟩
          rw [get_lay, if_pos ⟨hin.1, by omega⟩, List.getElem?_eq_getElem hq] at hc2
          simp only [Option.map_some, Option.some.injEq, Prod.mk.injEq] at hc2
          rw [← hc2.1]; exact RelV.mono hx _ _ hy2
        · refine ⟨x1, by rw [r5 n1 (by omega)]; exact hx1, fun v2 s2 hh hc2 hvl => ?_⟩
          rw [get_lay, if_neg (by omega)] at hc2
          refine RelV.mono hx _ _ (hv1 v2 s2 (by omega) hc2 ?_)
          obtain ⟨d, l2, h2, k2, u2, hu2, hus⟩ := hvl
          rw [T.get_put_ne _ _ _ hclsne, T.get_put_same] at hu2
          cases hu2
          exact ⟨_, _, _, _, _, hroot, fun s' hs' => hus s' (by rw [get_bump, if_neg hin]; exact hs')⟩
      · rw [get_lay] at h1
        split at h1
        · simp only [Option.map_eq_some_iff] at h1
          obtain ⟨u1, _, hu⟩ := h1; cases hu; exact Nat.lt_succ_self _
        · exact Nat.lt_succ_of_lt (S.2.1 _ _ _ h1)
      · have key : ∀ ob0, st.h.get j = some ob0 → ob0.cls? = ob.cls? → ob.cls? = some cls ∧ q.2.1 = o := by
          intro ob0 hj0 he
          by_cases hji : j = i
          · subst hji
            rw [hg] at hj0; cases hj0
            rw [hp] at hq; cases hq
            exact ⟨he.symm, rfl⟩
          · obtain ⟨c2, hc1, hc2, ho⟩ := H.sep j i _ _ _ _ hj0 hg hji hq hp hqb
            simp only [AO.cls?, Option.some.injEq] at hc2
            subst hc2
            exact ⟨by rw [← he]; exact hc1, ho⟩
        by_cases hjc : j = cls
        · subst hjc
          simp only [T.get_put_same, Option.some.injEq] at hj
          subst hj
          exact key _ hroot rfl
        · simp only [T.get_put_ne _ _ _ hjc] at hj
          exact key _ hj rfl
    · refine ⟨Nat.le_succ _, fun j hj => upd_ne _ _ (by omega), fun j q hj hq => ?_, fun j ob hj hlt => ?_, by omega, r7, r8, r9, fun b2 _ hb2 => r3 b2 (fun e2 => hb2 ⟨i, _, _, hg, hp, e2.symm⟩), fun j ob c2 hj hc2 hlt => ?_⟩
      · by_cases hji : j = st.nx
        · subst hji; rw [upd_same] at hq; cases hq; exact .inr ⟨i, _, _, hg, hp, rfl⟩
        · rw [upd_ne _ _ hji] at hq
          have := (H.dom _ _ hq).1
          omega
      · have hji : j ≠ st.nx := by omega
        simp only [T.get_put_ne _ _ _ hji] at hj
        by_cases hjc : j = cls
        · subst hjc; exact ⟨_, hroot⟩
        · rw [T.get_put_ne _ _ _ hjc] at hj; exact ⟨ob, hj⟩
      · by_cases hji : j = st.nx
        · subst hji
          simp only [T.get_put_same, Option.some.injEq] at hj; subst hj
          exact ⟨i, _, hg, hc2⟩
        · simp only [T.get_put_ne _ _ _ hji] at hj
          by_cases hjc : j = cls
          · subst hjc; rw [T.get_put_same] at hj; cases hj; exact ⟨j, _, hroot, hc2⟩
          · rw [T.get_put_ne _ _ _ hjc] at hj; exact ⟨j, ob, hj, hc2⟩
end
end Go.Proofs.Ythlcnklbeolhpaa.Ev

/-! EvApp3 -/
namespace Go.Proofs.Ythlcnklbeolhpaa.Ev
open Go Go.RowKit
section
variable {P : Program} {ρ : Rho} {st : St} {w : World}

theorem below_drew_alloc (w : World) (o : Obj) : Below w.heap.size w (w.drew.alloc o) := ((Below.refl _ _).drew).alloc (Nat.le_refl _) _

theorem Below.fr {ρ : Rho} {st : St} {w w' : World} (H : RelH ρ st w) {p : Nat × Int × Nat} (B : Below w.heap.size w w') (hp : w.heap.size ≤ p.1) (ao : AO) (hcl : ∀ c, ao.cls? = some c → c = st.nx) : Fr ρ st w (upd ρ st.nx p) ⟨st.h.put st.nx ao, st.nx + 1⟩ w' :=
  (Fr.refl ρ st w H).fresh (Nat.le_refl _) (Nat.le_succ _) ao hcl B hp

/-- A version, where the append makes a new array. -/
theorem versionA_grows (H : RelH ρ st w) {i k n m size : Nat} {c : Option Nat} {new : List AV} {v : AV} {st' : St} (e : versionA st i k n m size c new = some (v, st'))
    {a : Addr} (ha : 0 < n → At ρ i k a) {xs : List Value} (hl : RelL ρ new xs) (hlen : new.length = m * size) (hc : c = none) (zs : Array Value) (el : TypeId) (cap : Nat) (hcap : n + m ≤ cap) (hzs : zs.size = (cap - (n + m)) * size) :
    ∃ old : List Value, (loadCells a (n * size)).run P w.drew = .ok old.toArray w.drew ∧
      ∃ ρ', RelV ρ' v (.slice (some ⟨w.heap.size, 0, none⟩) (n + m) cap) ∧ RelH ρ' st' (w.drew.alloc (.cells (old.toArray ++ xs.toArray ++ zs) el)) ∧ Fr ρ st w ρ' st' (w.drew.alloc (.cells (old.toArray ++ xs.toArray ++ zs) el)) := by
  unfold versionA at e
  split at e
  case h_2 => cases e
  rename_i cs lo hi cls t hg
  cases hb : (lo.ble k && (k + n * size).ble hi && allOne new) with
  | false => rw [hb] at e; cases e
  | true =>
    rw [hb] at e; simp only [cond_true] at e
    simp only [Bool.and_eq_true, Nat.ble_eq] at hb
    obtain ⟨⟨b1, b2⟩, b3⟩ := hb
    split at e
    case h_2 => cases e
    rename_i c' lo' hi' cl' u hroot
    simp only [Option.some.injEq, Prod.mk.injEq] at e
    obtain ⟨rfl, rfl⟩ := e
    obtain ⟨b, o, en, hp, hen, hcells⟩ := H.obj i _ hg
    have hm1 : (n + m) * size = n * size + m * size := Nat.add_mul _ _ _
    have hm2 : (n + m) * size + (cap - (n + m)) * size = cap * size := by rw [← Nat.add_mul, show n + m + (cap - (n + m)) = cap by omega]
    have hxl := hl.length
    -- the old cells
    have hold : ∀ q, q < n * size → ∃ y, w.drew.cell? (a.add q) = some y := by
      intro q hq
      have hn : 0 < n := by
        rcases Nat.eq_zero_or_pos n with h | h
        · subst h; omega
        · exact h
      obtain ⟨b', o', e', hp', ab, as, ao⟩ := (ha hn).addr q
      rw [hp] at hp'; cases hp'
      obtain ⟨n1, hn1, _, y, hy, _⟩ := hcells (k + q) (by omega) (by omega)
      refine ⟨y, ?_⟩
      have : a.add q = ⟨b, n1, none⟩ := by
        cases hh : a.add q; rw [hh] at ab as ao; simp only at ab as ao; subst ab; subst as; congr 1; omega
      rw [this]; exact hy
    obtain ⟨old, o1, o2, o3⟩ := loaded (P := P) w.drew hold
    have S := H.stamp _ _ _ _ _ _ hg
    have hnx := H.freshNone
    have hclsne : cls ≠ st.nx := by
      obtain ⟨q, hq⟩ := S.1
      have := (H.dom _ _ hq).1
      omega
    have H1 := H.drew.bump (w' := w.drew) hg hroot hp (k + n * size) (m * size) rfl (fun _ _ => rfl) (fun _ => rfl) (fun _ _ _ _ => rfl) (fun _ h => h)
    have htot : (old.toArray ++ xs.toArray ++ zs).size = cap * size := by simp [o1, hxl, hlen, hzs]; omega
    have hx : Ext ρ (upd ρ st.nx (w.heap.size, -(k : Int), k + cap * size)) := ext_upd _ hnx
    refine ⟨old, o2, upd ρ st.nx (w.heap.size, -(k : Int), k + cap * size), ?_, ?_, ?_⟩
    · exact relV_sl.2 ⟨_, cap, fun _ => ⟨⟨_, _, _, upd_same _ _ _, rfl, rfl, (by show ((0 : Nat) : Int) = -(k : Int) + (k : Int); omega)⟩, _, _, _, upd_same _ _ _, Nat.le_refl _⟩, hcap, (fun q hq => by rw [hc] at hq; cases hq), rfl⟩
    · refine H1.new (i := st.nx) (n' := st.nx + 1) hnx (Nat.lt_succ_self _) (Nat.le_refl _) ((Below.refl _ _).alloc (Nat.le_refl _) _) (Nat.le_refl _) (by simp) ?_ ?_
      · refine ⟨w.heap.size, -(k : Int), k + cap * size, upd_same _ _ _, by omega, fun k1 g1 g2 => ?_⟩
        have hk1 : k1 - k < (old.toArray ++ xs.toArray ++ zs).size := by omega
        refine ⟨k1 - k, by omega, by rw [show w.heap.size = w.drew.heap.size from rfl, World.frozen?_alloc_new], (old.toArray ++ xs.toArray ++ zs)[k1 - k], ?_, fun v2 s2 hh hc2 hvl => ?_⟩
        · rw [show w.heap.size = w.drew.heap.size from rfl, World.cell?_alloc_new]; exact Array.getElem?_eq_getElem hk1
        · rw [get_lay] at hc2
          by_cases hin : k + n * size ≤ k1 ∧ k1 < k + n * size + new.length
          · rw [if_pos hin] at hc2
            simp only [Option.map_eq_some_iff] at hc2
            obtain ⟨u1, hu1, hu⟩ := hc2
            obtain ⟨y, hy1, hy2⟩ := hl.get _ _ hu1
            simp only [Prod.mk.injEq] at hu
            rw [← hu.1]
            have e1 : (old.toArray ++ xs.toArray ++ zs)[k1 - k]? = some y := by
              rw [Array.getElem?_append_left (by simp [o1]; omega), Array.getElem?_append_right (by simp [o1]; omega)]
              simp only [List.size_toArray, o1, List.getElem?_toArray]
              rw [show k1 - k - n * size = k1 - (k + n * size) by omega]; exact hy1
            rw [Array.getElem?_eq_getElem hk1] at e1
            rw [Option.some.inj e1]
            exact RelV.mono hx _ _ hy2
          · rw [if_neg hin] at hc2
            have hlt : k1 - k < n * size := by omega
            obtain ⟨n1, hn1, _, y, hy, hyv⟩ := hcells k1 (by omega) (by omega)
            have hn : 0 < n := by
              rcases Nat.eq_zero_or_pos n with h | h
              · subst h; omega
              · exact h
            obtain ⟨b', o', e', hp', ab, as, ao⟩ := (ha hn).addr (k1 - k)
            rw [hp] at hp'; cases hp'
            have ea : a.add (k1 - k) = ⟨b, n1, none⟩ := by
              cases hh : a.add (k1 - k); rw [hh] at ab as ao; simp only at ab as ao; subst ab; subst as; congr 1; omega
            have hoy := o3 (k1 - k) (old[k1 - k]'(by omega)) (List.getElem?_eq_getElem (by omega))
            rw [ea] at hoy
            have e0 : old[k1 - k]'(by omega) = y := Option.some.inj (hoy.symm.trans hy)
            have e1 : (old.toArray ++ xs.toArray ++ zs)[k1 - k] = y := by
              rw [Array.getElem_append_left (by simp [o1]; omega), Array.getElem_append_left (by simp [o1]; omega)]
              simpa using e0
            rw [e1]
            refine RelV.mono hx _ _ (hyv v2 s2 (by omega) hc2 ?_)
            obtain ⟨d, l2, h2, k2, u2, hu2, hus⟩ := hvl
            simp only [T.get_put_ne _ _ _ hclsne, T.get_put_same] at hu2
            cases hu2
            exact ⟨_, _, _, _, _, hroot, fun s' hs' => hus s' (by rw [get_bump, if_neg (by omega)]; exact hs')⟩
      · intro c2 lo2 hi2 cls2 t2 hao
        simp only [AO.cells.injEq] at hao
        obtain ⟨rfl, rfl, rfl, rfl, rfl⟩ := hao
        refine ⟨.inr S.1, fun k1 v1 s1 h1 => ?_, fun k1 s1 h1 => by simp [T.get_leaf] at h1⟩
        rw [get_lay] at h1
        split at h1
        · simp only [Option.map_eq_some_iff] at h1
          obtain ⟨u1, _, hu⟩ := h1; cases hu; exact Nat.lt_succ_self _
        · exact Nat.lt_succ_of_lt (S.2.1 _ _ _ h1)
    · have B := below_drew_alloc w (.cells (old.toArray ++ xs.toArray ++ zs) el)
      refine ⟨Nat.le_succ _, fun j hj => upd_ne _ _ (by omega), fun j q hj hq => ?_, fun j ob hj hlt => ?_, B.size, B.os, B.tape, B.output, fun b2 h2 _ => B.block b2 h2, fun j ob c2 hj hc2 hlt => ?_⟩
      · by_cases hji : j = st.nx
        · subst hji; rw [upd_same] at hq; cases hq; exact .inl (Nat.le_refl _)
        · rw [upd_ne _ _ hji] at hq
          have := (H.dom _ _ hq).1
          omega
      · have hji : j ≠ st.nx := by omega
        simp only [T.get_put_ne _ _ _ hji] at hj
        by_cases hjc : j = cls
        · subst hjc; exact ⟨_, hroot⟩
        · rw [T.get_put_ne _ _ _ hjc] at hj; exact ⟨ob, hj⟩
      · by_cases hji : j = st.nx
        · subst hji
          simp only [T.get_put_same, Option.some.injEq] at hj; subst hj
          exact ⟨i, _, hg, hc2⟩
        · simp only [T.get_put_ne _ _ _ hji] at hj
          by_cases hjc : j = cls
          · subst hjc; rw [T.get_put_same] at hj; cases hj; exact ⟨j, _, hroot, hc2⟩
          · rw [T.get_put_ne _ _ _ hjc] at hj; exact ⟨j, ob, hj, hc2⟩

theorem zeroCells_size (z : Array Value) (n : Nat) : (Builtin.zeroCells z n).size = n * z.size := by unfold Builtin.zeroCells; simp

/-- append. -/
theorem appendA_sound (H : RelH ρ st w) {at' : Array TypeId} {ty sT xT : TypeId} {d : TypeDesc} {zeros : Bool} {s x v : AV} {y z : Value} {st' : St}
    (h0 : at'[0]? = some sT) (h1 : at'[1]? = some xT) (hxT : P.underlying xT = some d) (hzd : if zeros then ∃ k, d = .int k else ∀ k, d ≠ .int k) (hs : RelV ρ s y) (hx : RelV ρ x z)
    (e : appendA P st sT zeros s x = some (v, st')) :
    ∃ r w' ρ', (Builtin.append_ at' ty #[y, z]).run P w = .ok r w' ∧ RelV ρ' v r ∧ RelH ρ' st' w' ∧ Fr ρ st w ρ' st' w' := by
  unfold appendA at e
  split at e
  case h_2 => cases e
  rename_i el hsT
  split at e
  case h_1 => cases e
  rename_i info hi
  split at e
  case h_1 => cases e
  rename_i zv hzz
  split at e
  case h_1 => cases e
  rename_i m new hadd
  cases hb : ((1).ble info.size && info.bytes.ble 65536 && new.length.beq (m * info.size) && zv.cells.size.beq info.size && m.ble 65536) with
  | false => rw [hb] at e; cases e
  | true =>
    rw [hb] at e; simp only [cond_true] at e
    simp only [Bool.and_eq_true, Nat.ble_eq, Nat.beq_eq] at hb
    obtain ⟨⟨⟨⟨b1, b2⟩, b3⟩, b4⟩, b5⟩ := hb
    obtain ⟨arr, hl, F, G⟩ := addedA_sound (P := P) (ty := ty) H h0 h1 hsT hxT hzd hi hzz hx hadd b3 b1 b5 b2
    have harr : arr.toList.length = m * info.size := by rw [hl.length, b3]
    split at e
    · rename_i n c
      have hy := relV_sc.1 hs
      subst hy
      cases hb2 : (n.beq 0 && c.beq 0) with
      | false => rw [hb2] at e; cases e
      | true =>
        rw [hb2] at e; simp only [cond_true] at e
        simp only [Bool.and_eq_true, Nat.beq_eq] at hb2
        obtain ⟨rfl, rfl⟩ := hb2
        cases hm0 : m.beq 0 with
        | true =>
          rw [hm0] at e; simp only [cond_true, Option.some.injEq, Prod.mk.injEq] at e
          obtain ⟨rfl, rfl⟩ := e
          have hm0' : m = 0 := Nat.eq_of_beq_eq_true hm0
          subst hm0'
          exact ⟨_, w, ρ, F none 0 0 w (Nat.le_refl _) rfl, RelV.sc _, H, Fr.refl _ _ _ H⟩
        | false =>
          rw [hm0] at e; simp only [cond_false] at e
          have hm0' : m ≠ 0 := Nat.ne_of_beq_eq_false hm0
          split at e
          case h_2 => cases e
          rename_i ao hao
          simp only [Option.some.injEq, Prod.mk.injEq] at e
          obtain ⟨rfl, rfl⟩ := e
          obtain ⟨cap, g1, g2⟩ := G none 0 0 #[] (by omega) (by omega) (by omega) rfl
          have R := H.drew.row H.freshNone (Nat.lt_succ_self _) (Nat.le_succ _) hao hl (Builtin.zeroCells zv.cells (cap - (0 + m))).toList el
          have ea : (arr.toList ++ (Builtin.zeroCells zv.cells (cap - (0 + m))).toList).toArray = #[] ++ arr ++ Builtin.zeroCells zv.cells (cap - (0 + m)) := by
            apply Array.toList_inj.1; simp
          rw [ea] at R
          have hz2 := zeroCells_size zv.cells (cap - (0 + m))
          have hm2 : m * info.size + (cap - (0 + m)) * info.size = cap * info.size := by rw [← Nat.add_mul, show m + (cap - (0 + m)) = cap by omega]
          rw [Nat.zero_add] at g2
          refine ⟨_, _, _, g2, relV_sl.2 ⟨_, cap, fun _ => ⟨at_upd0, room_upd ?_⟩, by omega, (fun q hq => by cases hq), rfl⟩, (by rw [Nat.zero_add] at R; exact R), Below.fr H (below_drew_alloc _ _) (Nat.le_refl _) ao (rowOf_cls hao)⟩
          simp only [List.length_append, Array.length_toList] at harr ⊢
          rw [Nat.zero_add] at hz2 hm2
          rw [hz2, b4]; omega
    · rename_i i k n zz c
      cases hb2 : ((n + m).ble 65536 && zz.beq info.size) with
      | false => rw [hb2] at e; cases e
      | true =>
        rw [hb2] at e; simp only [cond_true] at e
        simp only [Bool.and_eq_true, Nat.ble_eq, Nat.beq_eq] at hb2
        obtain ⟨d1, rfl⟩ := hb2
        obtain ⟨a, cap, ha, hn, hc, rfl⟩ := relV_sl.1 hs
        cases hm0 : m.beq 0 with
        | true =>
          rw [hm0] at e; simp only [cond_true, Option.some.injEq, Prod.mk.injEq] at e
          obtain ⟨rfl, rfl⟩ := e
          have hm0' : m = 0 := Nat.eq_of_beq_eq_true hm0
          subst hm0'
          have harr0 : arr = #[] := by
            apply Array.toList_inj.1
            exact List.length_eq_zero_iff.1 (by rw [harr]; simp)
          subst harr0
          refine ⟨_, w, ρ, F (some a) n cap w (by omega) rfl, ?_, H, Fr.refl _ _ _ H⟩
          rw [Nat.add_zero]; exact hs
        | false =>
          rw [hm0] at e; simp only [cond_false] at e
          have hm0' : m ≠ 0 := Nat.ne_of_beq_eq_false hm0
          cases hin : mayFit c (n + m) with
          | true =>
            rw [hin] at e; simp only [cond_true] at e
            by_cases hfit : n + m ≤ cap
            · obtain ⟨w', r1, ρ', r2, r3, r4⟩ := versionA_fits (P := P) H e (ha (by omega)).1 (ha (by omega)).2 hc hl b3 hfit
              exact ⟨_, w', ρ', F (some a) n cap w' hfit r1, r2, r3, r4⟩
            · have hcn : c = none := by
                cases c with
                | none => rfl
                | some c0 =>
                  have := Nat.le_of_ble_eq_true hin
                  have := hc c0 rfl
                  omega
              obtain ⟨old, o1, _⟩ := versionA_grows (P := P) H e (fun h => (ha (by omega)).1) hl b3 hcn (Builtin.zeroCells zv.cells 0) el (n + m) (Nat.le_refl _) (by rw [zeroCells_size]; simp)
              obtain ⟨cap', g1, g2⟩ := G (some a) n cap old.toArray (by omega) (by omega) (by omega) (by rw [firstCells_sl]; exact o1)
              obtain ⟨old', o1', ρ', r2, r3, r4⟩ := versionA_grows (P := P) H e (fun h => (ha (by omega)).1) hl b3 hcn (Builtin.zeroCells zv.cells (cap' - (n + m))) el cap' g1 (by rw [zeroCells_size, b4])
              have : old' = old := by
                have := (Result.ok.inj (o1'.symm.trans o1)).1
                simpa using this
              subst this
              have ea : arr.toList.toArray = arr := by simp
              rw [ea] at r3 r4
              exact ⟨_, _, ρ', g2, r2, r3, r4⟩
          | false =>
            rw [hin] at e; simp only [cond_false] at e
            cases c with
            | none => cases hin
            | some c0 =>
              have hc0 := hc c0 rfl
              have hlt : ¬ n + m ≤ c0 := by
                intro h
                have h2 : (n + m).ble c0 = true := by rw [Nat.ble_eq]; exact h
                simp only [mayFit, h2] at hin
                cases hin
              split at e
              case h_2 => cases e
              rename_i oldA hold
              split at e
              case h_2 => cases e
              rename_i ao hao
              simp only [Option.some.injEq, Prod.mk.injEq] at e
              obtain ⟨rfl, rfl⟩ := e
              have hload : ∃ ys : List Value, RelL ρ oldA ys ∧ ys.length = n * info.size ∧ (loadCells a (n * info.size)).run P w.drew = .ok ys.toArray w.drew := by
                by_cases hn0 : n = 0
                · subst hn0
                  simp only [Nat.zero_mul, rdCells, Option.some.injEq] at hold
                  subst hold
                  exact ⟨[], RelL.nil_iff.2 rfl, by simp, by simp only [Nat.zero_mul]; rfl⟩
                · obtain ⟨ys, y1, y2, y3⟩ := run_loadCells_rel (P := P) H.drew hold (ha (by omega)).1
                  exact ⟨ys, y1, y2, y3⟩
              obtain ⟨ys, y1, y2, y3⟩ := hload
              obtain ⟨cap', g1, g2⟩ := G (some a) n cap ys.toArray (by omega) (by omega) (by omega) (by rw [firstCells_sl]; exact y3)
              have R := H.drew.row H.freshNone (Nat.lt_succ_self _) (Nat.le_succ _) hao (y1.append hl) (Builtin.zeroCells zv.cells (cap' - (n + m))).toList el
              have ea : (ys ++ arr.toList ++ (Builtin.zeroCells zv.cells (cap' - (n + m))).toList).toArray = ys.toArray ++ arr ++ Builtin.zeroCells zv.cells (cap' - (n + m)) := by
                apply Array.toList_inj.1; simp
              rw [ea] at R
              have hz2 := zeroCells_size zv.cells (cap' - (n + m))
              have hm2 : n * info.size + m * info.size + (cap' - (n + m)) * info.size = cap' * info.size := by rw [← Nat.add_mul, ← Nat.add_mul, show n + m + (cap' - (n + m)) = cap' by omega]
              refine ⟨_, _, _, g2, relV_sl.2 ⟨_, cap', fun _ => ⟨at_upd0, room_upd ?_⟩, g1, (fun q hq => by cases hq), rfl⟩, R, Below.fr H (below_drew_alloc _ _) (Nat.le_refl _) ao (rowOf_cls hao)⟩
              simp only [List.length_append, Array.length_toList] at harr ⊢
              rw [hz2, b4]; omega
    · cases e
end
end Go.Proofs.Ythlcnklbeolhpaa.Ev

/-! EvDef2 -/
namespace Go.Proofs.Ythlcnklbeolhpaa.Ev
open Go Go.RowKit
noncomputable section

/-! A region that draws its order. -/
def preds (o : Oper) : List Nat := (o.after.toList.filter (Region.binds .any)).map (·.on)
def orP (anc : T Nat) : List Nat → Nat
  | [] => 0
  | e :: es => (2 ^ e ||| ((anc.get e).getD 0)) ||| orP anc es
/-- Of each operation all that must be done before it: a number whose bits are the operations. -/
def ancs : List Oper → Nat → T Nat → T Nat
  | [], _, t => t
  | o :: os, j, t => ancs os (j + 1) (t.put j (orP t (preds o)))
/-- Which operation writes a slot: each slot at most once. -/
def wrs : List Oper → Nat → T Nat → Option (T Nat)
  | [], _, t => some t
  | o :: os, j, t => match o.dst with
    | none => wrs os (j + 1) t
    | some d => match t.get d with
      | none => wrs os (j + 1) (t.put d j)
      | some _ => none
def xsOf : List Oper → Nat → List Nat
  | [], _ => []
  | o :: os, j => match kindOf o.op with
    | .x => j :: xsOf os (j + 1)
    | _ => xsOf os (j + 1)
def maskOf : List Nat → Nat
  | [] => 0
  | x :: xs => 2 ^ x ||| maskOf xs
/-- All predecessors lie before. -/
def predsOk : List Oper → Nat → Bool
  | [], _ => true
  | o :: os, j => (preds o).all (·.blt j) && predsOk os (j + 1)

structure Ph where
  vals : T AV
  st : St
  pend : List (Nat × Nat × AO)
  done : Nat
  gone : Nat

def an (anc : T Nat) (i : Nat) : Nat := (anc.get i).getD 0
def slotG (wr anc : T Nat) (tm vals : T AV) (i t : Nat) : Option AV :=
  match wr.get t with
  | none => tm.get t
  | some j => bif (an anc i).testBit j then vals.get j
    else bif j.beq i || (an anc j).testBit i then tm.get t else none
def envG (wr anc : T Nat) (tm vals : T AV) (i : Nat) : Operand → Option AV
  | .tmp t => slotG wr anc tm vals i t
  | .const v => some (.sc v)
  | .func f => some (.sc (.func (.func f) #[] #[]))
  | .global _ => none
def viewP (p : Nat → Bool) : List (Nat × Nat × AO) → T AO → T AO
  | [], h => h
  | (j, id, ao) :: l, h => viewP p l (bif p j then h.put id ao else h)
def restG (m : Nat) (l : List (Nat × Nat × AO)) : List (Nat × Nat × AO) := l.filter fun p => !m.testBit p.1
/-- The operations that look at memory. -/
def heapOp : Op → Bool
  | .load .. | .lookup .. | .slice .. | .call _ => true
  | _ => false

mutual
def vsame : Value → Value → Bool
  | .int k n, .int j m => decide (k = j) && decide (n = m)
  | .bool a, .bool b => decide (a = b)
  | .string a, .string b => decide (a.data.toList = b.data.toList)
  | .pointer none, .pointer none => true
  | .slice none a b, .slice none c d => a.beq c && b.beq d
  | .map none, .map none => true
  | .nilFunc, .nilFunc => true
  | .nilIface, .nilIface => true
  | .iface t v, .iface u w => t.beq u && vsame v w
  | .agg ⟨l⟩, .agg ⟨m⟩ => vsameL l m
  | .tuple ⟨l⟩, .tuple ⟨m⟩ => vsameL l m
  | .func f ⟨a⟩ ⟨b⟩, .func g ⟨c⟩ ⟨d⟩ => decide (f = g) && vsameL a c && vsameL b d
  | _, _ => false
  termination_by structural v => v
def vsameL : List Value → List Value → Bool
  | [], [] => true
  | a :: l, b :: m => vsame a b && vsameL l m
  | _, _ => false
  termination_by structural l => l
end
mutual
def AV.same : AV → AV → Bool
  | .sc u, .sc v => vsame u v
  | .ptr i k, .ptr j l => i.beq j && k.beq l
  | .sl i k n z c, .sl i' k' n' z' c' => i.beq i' && k.beq k' && n.beq n' && z.beq z' && decide (c = c')
  | .mp i, .mp j => i.beq j
  | .agg l, .agg m => sameL l m
  | .tup l, .tup m => sameL l m
  | .fn f l m, .fn f' l' m' => decide (f = f') && sameL l l' && sameL m m'
  | .ifc t v, .ifc t' v' => t.beq t' && v.same v'
  | _, _ => false
def sameL : List AV → List AV → Bool
  | [], [] => true
  | a :: l, b :: m => a.same b && sameL l m
  | _, _ => false
end

section
variable (P : Program) (ops : List Oper) (anc wr : T Nat) (xm : Nat) (tm : T AV)
def possible (i : Nat) (ph : Ph) : Bool := ((an anc i &&& xm) &&& ph.done).beq (an anc i &&& xm) && !ph.gone.testBit i
/-- One operation that is no step of the chain, in one phase. -/
def oneG (i : Nat) (o : Oper) (ph : Ph) : Option Ph :=
  match ph.vals.get i with
  | some u => bif heapOp o.op then
      match wantedA ops (slotG wr anc tm ph.vals i) o with
      | none => none
      | some false => some ph
      | some true => match evQ P (envG wr anc tm ph.vals i) (viewP (an anc i).testBit ph.pend ph.st.h) o with
        | some v => bif v.same u then some ph else none
        | none => none
    else some ph
  | none => match wantedA ops (slotG wr anc tm ph.vals i) o with
    | none => none
    | some false => some { ph with vals := ph.vals.put i (.sc undef) }
    | some true => match kindOf o.op with
      | .q => match evQ P (envG wr anc tm ph.vals i) (viewP (an anc i).testBit ph.pend ph.st.h) o with
        | some v => some { ph with vals := ph.vals.put i v }
        | none => none
      | .f => match evF P (envG wr anc tm ph.vals i) ph.st.nx o with
        | some (v, ao) => some { ph with vals := ph.vals.put i v, pend := ph.pend ++ [(i, ph.st.nx, ao)], st := ⟨ph.st.h, ph.st.nx + 1⟩ }
        | none => none
      | .x => none
def passG : List Oper → Nat → Ph → Option Ph
  | [], _, ph => some ph
  | o :: os, i, ph => match kindOf o.op with
    | .x => passG os (i + 1) ph
    | _ => bif possible anc xm i ph then match oneG P ops anc wr tm i o ph with
        | some ph' => passG os (i + 1) ph'
        | none => none
      else passG os (i + 1) ph
variable (call : FuncId → List AV → St → Option (AV × St))
/-- One step of the chain. -/
def stepX (x : Nat) (ph : Ph) : Option Ph :=
  match ops[x]? with
  | none => none
  | some o => bif (ph.done &&& an anc x).beq ph.done && (ph.vals.get x).isNone then
      match wantedA ops (slotG wr anc tm ph.vals x) o with
      | none => none
      | some false => some ⟨ph.vals.put x (.sc undef), ⟨viewP (an anc x).testBit ph.pend ph.st.h, ph.st.nx⟩, restG (an anc x) ph.pend, ph.done ||| 2 ^ x, ph.gone ||| an anc x⟩
      | some true => match evW P call (envG wr anc tm ph.vals x) ⟨viewP (an anc x).testBit ph.pend ph.st.h, ph.st.nx⟩ o with
        | some (v, st') => some ⟨ph.vals.put x v, st', restG (an anc x) ph.pend, ph.done ||| 2 ^ x, ph.gone ||| an anc x⟩
        | none => none
    else none
def restX : List Nat → Ph → Option Ph
  | [], ph => some ph
  | x :: xs, ph => match stepX P ops anc wr tm call x ph with
    | none => none
    | some ph' => match passG P ops anc wr xm tm ops 0 ph' with
      | none => none
      | some ph'' => restX xs ph''
end
def putAll (n : Nat) (vals : T AV) : List Oper → Nat → T AV → Option (T AV)
  | [], _, tm => some tm
  | o :: os, i, tm => match vals.get i with
    | none => none
    | some v => match putA n tm o.dst v with
      | some tm' => putAll n vals os (i + 1) tm'
      | none => none
def evDraw (P : Program) (call : FuncId → List AV → St → Option (AV × St)) (n : Nat) (ops : List Oper) (tm : T AV) (st : St) : Option (T AV × St) :=
  match wrs ops 0 .leaf with
  | none => none
  | some wr => bif predsOk ops 0 then
      match passG P ops (ancs ops 0 .leaf) wr (maskOf (xsOf ops 0)) tm ops 0 ⟨.leaf, st, [], 0, 0⟩ with
      | none => none
      | some ph => match restX P ops (ancs ops 0 .leaf) wr (maskOf (xsOf ops 0)) tm call (xsOf ops 0) ph with
        | none => none
        | some phF => match putAll n phF.vals ops 0 tm with
          | some tm' => some (tm', ⟨viewP (fun _ => true) phF.pend phF.st.h, phF.st.nx⟩)
          | none => none
    else none

/-! Code and calls. -/
inductive Ex | normal | exit (id : Nat) | ret

def evRes (P : Program) (tm : T AV) (h : T AO) : List ResultVar → Option (List AV)
  | [] => some []
  | .tmp t :: rs => match tm.get t with
    | none => none
    | some v => match evRes P tm h rs with
      | some l => some (v :: l)
      | none => none
  | .cell a t :: rs => match tm.get a with
    | some (.ptr i k) => match loadA P h t i k with
      | none => none
      | some v => match evRes P tm h rs with
        | some l => some (v :: l)
        | none => none
    | _ => none
def oneOf : List AV → AV
  | [v] => v
  | l => .tup l
def enterT : List AV → Nat → T AV → T AV
  | [], _, t => t
  | v :: l, k, t => enterT l (k + 1) (t.put k v)

/-- What is known of some functions: what they return, by what they are called with. -/
abbrev Orc := FuncId → Option (List Value → Option Value)
def askO (orc : Orc) (g : FuncId) (args : List AV) : Option (Option AV) :=
  match orc g with
  | none => none
  | some f => match toVs args with
    | none => some none
    | some vs => match f vs with
      | some v => some (some (.sc v))
      | none => some none

mutual
def evC (P : Program) (orc : Orc) : Nat → Nat → Code → T AV → St → Option (Ex × T AV × St)
  | 0, _, _, _, _ => none
  | f + 1, n, c, tm, st =>
    match c with
    | .skip | .label _ => some (.normal, tm, st)
    | .seq a b => match evC P orc f n a tm st with
      | some (.normal, tm', st') => evC P orc f n b tm' st'
      | r => r
    | .cond x a b => match evX tm x with
      | some (.sc (.bool true)) => evC P orc f n a tm st
      | some (.sc (.bool false)) => evC P orc f n b tm st
      | _ => none
    | .block id c => match evC P orc f n c tm st with
      | some (.exit id', tm', st') => bif id'.beq id then some (.normal, tm', st') else some (.exit id', tm', st')
      | r => r
    | .loop c => match evC P orc f n c tm st with
      | some (.normal, tm', st') => evC P orc f n (.loop c) tm' st'
      | r => r
    | .scope c => evC P orc f n c tm st
    | .exit id => some (.exit id, tm, st)
    | .ret => some (.ret, tm, st)
    | .region _ ops false => match evSeq P (evCall P orc f) n ops.toList ops.toList tm st with
      | some (tm', st') => some (.normal, tm', st')
      | none => none
    | .region _ ops true => match evDraw P (evCall P orc f) n ops.toList tm st with
      | some (tm', st') => some (.normal, tm', st')
      | none => none
    | _ => none
def evCall (P : Program) (orc : Orc) : Nat → FuncId → List AV → St → Option (AV × St)
  | 0, _, _, _ => none
  | f + 1, g, args, st => match askO orc g args with
    | some none => none
    | some (some v) => some (v, st)
    | none => match P.funcs[g]? with
      | none => none
      | some fn => match fn.body with
        | none => none
        | some c => match evC P orc f (args.length + (fn.ntmps - args.length)) c (enterT args 0 .leaf) st with
          | some (.normal, tm, st') | some (.ret, tm, st') => match evRes P tm st'.h fn.results.toList with
            | some l => some (oneOf l, st')
            | none => none
          | _ => none
end
def chk (P : Program) (orc : Orc) (f : Nat) (g : FuncId) (args : List Value) : Option Value :=
  match evCall P orc f g (scs args) ⟨.leaf, 1⟩ with
  | some (v, _) => v.toV
  | none => none
end
end Go.Proofs.Ythlcnklbeolhpaa.Ev

/-! EvW -/
namespace Go.Proofs.Ythlcnklbeolhpaa.Ev
open Go Go.RowKit
section
variable {P : Program} {ρ : Rho} {st : St} {w : World}

/-- An operation gives v and the state st'. -/
def OpOk (P : Program) (o : Oper) (a : Act) (w : World) (ρ : Rho) (st : St) (v : AV) (st' : St) : Prop :=
  ∀ (K : Act → World → Prop) (Q : Exit → Act → World → Prop), (∀ y ρ' w', RelV ρ' v y → RelH ρ' st' w' → Fr ρ st w ρ' st' w' → K (a.put o.dst y) w') → o.wp P a w K Q

theorem OpOk.value {o : Oper} {a : Act} {v : AV} {st' : St} {y : Value} {w' : World} {ρ' : Rho} (h : (execOp a.eval o).run P w = .ok (.value y) w') (hv : RelV ρ' v y) (H' : RelH ρ' st' w') (F : Fr ρ st w ρ' st' w') : OpOk P o a w ρ st v st' := by
  intro K Q hK
  unfold Oper.wp; rw [h]
  exact hK y ρ' w' hv H' F
theorem OpOk.skip {o : Oper} {a : Act} {st' : St} {w' : World} {ρ' : Rho} (h : (execOp a.eval o).run P w = .ok .skip w') (H' : RelH ρ' st' w') (F : Fr ρ st w ρ' st' w') : OpOk P o a w ρ st (.sc undef) st' := by
  intro K Q hK
  unfold Oper.wp; rw [h]
  exact hK undef ρ' w' (RelV.sc _) H' F

theorem storeA_sound (H : RelH ρ st w) {t : TypeId} {a v : AV} {x y : Value} (hx : RelV ρ a x) (hy : RelV ρ v y) {st' : St} (e : storeA P st t a v = some st') :
    ∃ w', (Instr.storeAt t x y).run P w = .ok () w' ∧ RelH ρ st' w' ∧ Fr ρ st w ρ st' w' := by
  unfold storeA at e
  split at e
  case h_2 => cases e
  rename_i i k
  split at e
  case h_2 => cases e
  rename_i n hn
  simp only at e
  cases hb : v.cells.length.beq n with
  | false => rw [hb] at e; cases e
  | true =>
    rw [hb] at e; simp only [cond_true] at e
    have hl := hy.cells
    obtain ⟨a, ha, rfl⟩ := relV_ptr.1 hx
    obtain ⟨w', r1, r2, r3⟩ := RelH.wrs H e ha hl P 0 a (by unfold Addr.add; rw [if_pos rfl])
    refine ⟨w', ?_, r2, r3⟩
    have hlen := hl.length
    rw [Nat.eq_of_beq_eq_true hb] at hlen
    simp only [Array.length_toList] at hlen
    unfold Instr.storeAt
    rw [Sem.run_bind, sureAddr_run]; simp only [Result.andThen_ok]
    unfold storeVar
    rw [Sem.run_bind, semP_run _ _ hn w]; simp only [Result.andThen_ok]
    rw [if_neg (by omega)]
    exact r1

/-- A map's entries anew. -/
theorem RelH.setMap (H : RelH ρ st w) {i : Nat} {es es2 : List (Value × AV × Nat)} {cl cl2 : Nat} (hg : st.h.get i = some (.map es cl)) {b : Nat} (hp : ρ i = some (b, 0, 0)) {es' : Array MapEntry} (hw : w.heap[b]? = some (.map es' cl))
    {es2' : Array MapEntry} (hE : RelE ρ es2 es2'.toList) :
    (∀ (k : Sem Unit), (setObj b (.map es2' cl2) >>= fun _ => k).run P w = k.run P { w with heap := w.heap.setIfInBounds b (.map es2' cl2) }) ∧ (setObj b (.map es2' cl2)).run P w = .ok () { w with heap := w.heap.setIfInBounds b (.map es2' cl2) } ∧
    RelH ρ ⟨st.h.put i (.map es2 cl2), st.nx⟩ { w with heap := w.heap.setIfInBounds b (.map es2' cl2) } ∧ Fr ρ st w ρ ⟨st.h.put i (.map es2 cl2), st.nx⟩ { w with heap := w.heap.setIfInBounds b (.map es2' cl2) } := by
  have hrun : (setObj b (.map es2' cl2)).run P w = .ok () { w with heap := w.heap.setIfInBounds b (.map es2' cl2) } := by simp [setObj, Sem.run, hw]
  have hblt : b < w.heap.size := (H.dom _ _ hp).2
  have hother : ∀ b2, b2 ≠ b → (w.heap.setIfInBounds b (.map es2' cl2))[b2]? = w.heap[b2]? := fun b2 h => Array.getElem?_setIfInBounds_ne (fun e => h e.symm)
  refine ⟨fun k => by rw [Sem.run_bind, hrun]; rfl, hrun, ⟨fun j o hj => ?_, fun j p hj => ?_, fun j k oj ok p q hj hk hjk h1 h2 h3 => ?_, fun j c lo hi cls t hj => ?_, H.pos⟩, ?_⟩
  · by_cases hji : j = i
    · subst hji
      simp only [T.get_put_same, Option.some.injEq] at hj; subst hj
      exact ⟨b, hp, es2', by simp [hblt], hE⟩
    · simp only [T.get_put_ne _ _ _ hji] at hj
      refine (H.obj j o hj).mono (Ext.refl _) (fun p hpj => hother _ (fun e => ?_)) (fun cl' k s _ => ?_)
      · obtain ⟨c, hc, hc2, _⟩ := H.sep j i _ _ _ _ hj hg hji hpj hp e
        simp [AO.cls?] at hc2
      · rintro ⟨d, l2, h2, k2, u, hu, hus⟩
        by_cases hci : cl' = i
        · subst hci; rw [T.get_put_same] at hu; cases hu
        · rw [T.get_put_ne _ _ _ hci] at hu; exact ⟨d, l2, h2, k2, u, hu, hus⟩
  · have := H.dom j p hj; exact ⟨this.1, by simpa using this.2⟩
  · have get : ∀ m om, (st.h.put i (.map es2 cl2)).get m = some om → ∃ om0, st.h.get m = some om0 ∧ om0.cls? = om.cls? := by
      intro m om hm
      by_cases hmi : m = i
      · subst hmi; rw [T.get_put_same] at hm; cases hm; exact ⟨_, hg, rfl⟩
      · rw [T.get_put_ne _ _ _ hmi] at hm; exact ⟨_, hm, rfl⟩
    obtain ⟨oj0, hj0, ej⟩ := get j oj hj
    obtain ⟨ok0, hk0, ek⟩ := get k ok hk
    rw [← ej, ← ek]
    exact H.sep j k _ _ _ _ hj0 hk0 hjk h1 h2 h3
  · by_cases hji : j = i
    · subst hji; simp only [T.get_put_same] at hj; cases hj
    · simp only [T.get_put_ne _ _ _ hji] at hj
      exact H.stamp _ _ _ _ _ _ hj
  · refine ⟨Nat.le_refl _, fun _ _ => rfl, fun j p h1 h2 => absurd (H.dom j p h2).1 (by omega), fun j o hj _ => ?_, by simp, rfl, rfl, rfl, fun b2 _ hb2 => hother b2 (fun e => hb2 ⟨i, _, _, hg, hp, e.symm⟩), fun j o c hj hc _ => ?_⟩
    · by_cases hji : j = i
      · subst hji; exact ⟨_, hg⟩
      · simp only [T.get_put_ne _ _ _ hji] at hj; exact ⟨o, hj⟩
    · by_cases hji : j = i
      · subst hji; simp only [T.get_put_same, Option.some.injEq] at hj; subst hj; cases hc
      · simp only [T.get_put_ne _ _ _ hji] at hj; exact ⟨j, o, hj, hc⟩

theorem setEnt_rel {key : Value} {v : AV} {y : Value} (hv : RelV ρ v y) (f : MapEntry → MapEntry) : ∀ {j : Nat} {l : List (Value × AV × Nat)} {es : List MapEntry} {e : MapEntry}, RelE ρ l es → es[j]? = some e →
    (f e).key = key → (f e).val = y → (f e).born = e.born → RelE ρ (setEnt key v j l) (es.modify j f)
  | _, [], es, e, h, he, _, _, _ => by rw [show es = [] from h] at he; simp at he
  | 0, (k, u, b) :: l, _, e, ⟨en, es', h1, h2, h3, h4, h5⟩, he, e1, e2, e3 => by
    subst h5
    simp at he; subst he
    exact ⟨f en, es', by rw [e2]; exact hv, e1, by rw [e3]; exact h3, h4, rfl⟩
  | j + 1, (k, u, b) :: l, _, e, ⟨en, es', h1, h2, h3, h4, h5⟩, he, e1, e2, e3 => by
    subst h5
    exact ⟨en, es'.modify j f, h1, h2, h3, setEnt_rel hv f h4 (by simpa using he) e1 e2 e3, rfl⟩
theorem RelE.snoc {k : Value} {v : AV} {b : Nat} {e : MapEntry} (h1 : RelV ρ v e.val) (h2 : e.key = k) (h3 : e.born = b) : ∀ {l : List (Value × AV × Nat)} {es : List MapEntry}, RelE ρ l es → RelE ρ (l ++ [(k, v, b)]) (es ++ [e])
  | [], es, h => by rw [show es = [] from h]; exact ⟨e, [], h1, h2, h3, rfl, rfl⟩
  | (_, _, _) :: _, _, ⟨en, es', g1, g2, g3, g4, g5⟩ => by subst g5; exact ⟨en, es' ++ [e], g1, g2, g3, RelE.snoc h1 h2 h3 g4, rfl⟩

theorem mapOf (H : RelH ρ st w) {i : Nat} {es : List (Value × AV × Nat)} {cl : Nat} {x : Value} (hx : RelV ρ (.mp i) x) (hg : st.h.get i = some (.map es cl)) :
    ∃ b es', x = .map (some b) ∧ ρ i = some (b, 0, 0) ∧ w.heap[b]? = some (.map es' cl) ∧ RelE ρ es es'.toList := by
  obtain ⟨b, h1, es', h2, h3⟩ := H.obj i _ hg
  obtain ⟨b', h1', rfl⟩ := relV_mp.1 hx
  rw [h1] at h1'; cases h1'
  exact ⟨b, es', rfl, h1, h2, h3⟩

theorem evMapUpdate_sound (H : RelH ρ st w) {t : TypeId} {m k v : AV} {x y z : Value} (hx : RelV ρ m x) (hy : RelV ρ k y) (hz : RelV ρ v z) {st' : St} (e : evMapUpdate P st t m k v = some st') :
    ∃ w', (Instr.mapUpdate t x y z).run P w = .ok () w' ∧ RelH ρ st' w' ∧ Fr ρ st w ρ st' w' := by
  unfold evMapUpdate at e
  split at e
  case h_2 => cases e
  rename_i i kv kt et hkv hd
  split at e
  case h_2 => cases e
  rename_i es clock hg
  have hyk := RelV.toV _ _ _ hy hkv
  subst hyk
  obtain ⟨b, es', rfl, hp, hw, hE⟩ := mapOf H hx hg
  split at e
  · rename_i u j k' v' b' hchk hf
    split at e
    case h_2 => cases e
    rename_i key hkey
    simp only [Option.some.injEq] at e; subst e
    obtain ⟨g1, g2⟩ := findKey_sound (w := w) hE hf
    obtain ⟨en, a1, a2, a3, a4⟩ := g2 _ _ _ _ rfl
    have a1' : es'[j]? = some en := by simpa using a1
    obtain ⟨_, r1, r2, r3⟩ := RelH.setMap (P := P) (cl2 := clock) H hg hp hw (es2' := es'.modify j fun e => { e with key, val := z }) (by rw [Array.toList_modify]; exact setEnt_rel hz _ hE a1 rfl rfl rfl)
    refine ⟨_, ?_, r2, r3⟩
    unfold Instr.mapUpdate
    simp only [Sem.run_bind, run_under hd, Result.andThen_ok, run_getObj_map hw, semP_run _ _ hchk w, g1, Option.map_some, a1', a3, Option.getD_some, semP_run _ _ hkey w, r1]
  · rename_i u hchk hf
    simp only [Option.some.injEq] at e; subst e
    obtain ⟨g1, _⟩ := findKey_sound (w := w) hE hf
    obtain ⟨_, r1, r2, r3⟩ := RelH.setMap (P := P) (cl2 := clock + 1) H hg hp hw (es2' := es'.push { key := y, val := z, born := clock }) (by rw [Array.toList_push]; exact RelE.snoc hz rfl rfl hE)
    refine ⟨_, ?_, r2, r3⟩
    unfold Instr.mapUpdate
    simp only [Sem.run_bind, run_under hd, Result.andThen_ok, run_getObj_map hw, semP_run _ _ hchk w, g1, Option.map_none, r1]
  · cases e

theorem evMapEntry_sound (H : RelH ρ st w) {t : TypeId} {m k v : AV} {x y : Value} (hx : RelV ρ m x) (hy : RelV ρ k y) {st' : St} (e : evMapEntry P st t m k = some (v, st')) :
    ∃ z w', (Instr.mapEntry t x y).run P w = .ok z w' ∧ RelV ρ v z ∧ RelH ρ st' w' ∧ Fr ρ st w ρ st' w' := by
  unfold evMapEntry at e
  split at e
  case h_2 => cases e
  rename_i i kv kt et hkv hd
  split at e
  case h_2 => cases e
  rename_i es clock hg
  have hyk := RelV.toV _ _ _ hy hkv
  subst hyk
  obtain ⟨b, es', rfl, hp, hw, hE⟩ := mapOf H hx hg
  split at e
  · rename_i u j k' v' b' hchk hf
    split at e
    case h_2 => cases e
    rename_i key hkey
    simp only [Option.some.injEq, Prod.mk.injEq] at e
    obtain ⟨rfl, rfl⟩ := e
    obtain ⟨g1, g2⟩ := findKey_sound (w := w) hE hf
    obtain ⟨en, a1, a2, a3, a4⟩ := g2 _ _ _ _ rfl
    have a1' : es'[j]? = some en := by simpa using a1
    obtain ⟨r0, r1, r2, r3⟩ := RelH.setMap (P := P) (cl2 := clock) H hg hp hw (es2' := es'.modify j fun e => { e with key }) (by rw [Array.toList_modify]; exact setEnt_rel a2 _ hE a1 rfl rfl rfl)
    refine ⟨.tuple #[en.val, goInt b'], _, ?_, relV_tup.2 ⟨[en.val, goInt b'], RelL.cons a2 (RelL.cons (RelV.sc _) (RelL.nil_iff.2 rfl)), rfl⟩, r2, r3⟩
    unfold Instr.mapEntry
    simp only [Sem.run_bind, run_under hd, Result.andThen_ok, run_getObj_map hw, semP_run _ _ hchk w, g1, Option.map_some, a1', a3, a4, Option.getD_some, semP_run _ _ hkey w, r1, Sem.run_pure]
    simp [a1]
  · rename_i u hchk hf
    split at e
    case h_2 => cases e
    rename_i z hz
    simp only [Option.some.injEq, Prod.mk.injEq] at e
    obtain ⟨rfl, rfl⟩ := e
    obtain ⟨g1, _⟩ := findKey_sound (w := w) hE hf
    obtain ⟨_, r1, r2, r3⟩ := RelH.setMap (P := P) (cl2 := clock + 1) H hg hp hw (es2' := es'.push { key := y, val := z, born := clock }) (by rw [Array.toList_push]; exact RelE.snoc (RelV.sc z) rfl rfl hE)
    refine ⟨.tuple #[z, goInt clock], _, ?_, relV_tup.2 ⟨[z, goInt clock], RelL.cons (RelV.sc _) (RelL.cons (RelV.sc _) (RelL.nil_iff.2 rfl)), rfl⟩, r2, r3⟩
    unfold Instr.mapEntry
    simp only [Sem.run_bind, run_under hd, Result.andThen_ok, run_getObj_map hw, semP_run _ _ hchk w, g1, Option.map_none, semP_run _ _ hz w, r1, Sem.run_pure]
  · cases e

theorem bornAt_sound {bn : Int} : ∀ {l : List (Value × AV × Nat)} {es : List MapEntry} {i j : Nat} {key : Value}, RelE ρ l es → bornAt bn l i = some (j, key) →
    i ≤ j ∧ es.findIdx? (fun e => (e.born : Int) == bn) = some (j - i) ∧ ∃ e, es[j - i]? = some e ∧ e.key = key
  | [], _, i, j, key, _, e => by simp [bornAt] at e
  | (k, v, b) :: l, _, i, j, key, ⟨en, es', h1, h2, h3, h4, h5⟩, e => by
    subst h5
    simp only [bornAt] at e
    cases hb : decide ((b : Int) = bn) with
    | true =>
      rw [hb] at e; simp only [cond_true, Option.some.injEq, Prod.mk.injEq] at e
      obtain ⟨rfl, rfl⟩ := e
      have : ((en.born : Int) == bn) = true := by rw [h3]; simpa using hb
      exact ⟨Nat.le_refl _, by rw [List.findIdx?_cons, this]; simp, en, by simp, h2⟩
    | false =>
      rw [hb] at e; simp only [cond_false] at e
      obtain ⟨g1, g2, e2, g3, g4⟩ := bornAt_sound h4 e
      have : ((en.born : Int) == bn) = false := by rw [h3]; simpa using hb
      refine ⟨by omega, ?_, e2, ?_, g4⟩
      · rw [List.findIdx?_cons, this, g2]; simp; omega
      · rw [show j - i = (j - (i + 1)) + 1 by omega, List.getElem?_cons_succ]; exact g3

theorem evEntryStore_sound (H : RelH ρ st w) {t : TypeId} {m s v : AV} {x y z : Value} (hx : RelV ρ m x) (hy : RelV ρ s y) (hz : RelV ρ v z) {st' : St} (e : evEntryStore st m s v = some st') :
    ∃ w', (Instr.entryStore t x y z).run P w = .ok () w' ∧ RelH ρ st' w' ∧ Fr ρ st w ρ st' w' := by
  unfold evEntryStore at e
  split at e
  case h_2 => cases e
  rename_i i kd bn
  split at e
  case h_2 => cases e
  rename_i es clock hg
  split at e
  case h_2 => cases e
  rename_i j key hbn
  simp only [Option.some.injEq] at e; subst e
  obtain ⟨b, es', rfl, hp, hw, hE⟩ := mapOf H hx hg
  obtain ⟨_, g2, en, g3, g4⟩ := bornAt_sound hE hbn
  simp only [Nat.sub_zero] at g2 g3
  have g2' : es'.findIdx? (fun e => (e.born : Int) == bn) = some j := by cases es' with | mk l => simpa using g2
  obtain ⟨_, r1, r2, r3⟩ := RelH.setMap (P := P) (cl2 := clock) H hg hp hw (es2' := es'.modify j fun e => { e with val := z }) (by rw [Array.toList_modify]; exact setEnt_rel hz _ hE g3 g4 rfl rfl)
  refine ⟨_, ?_, r2, r3⟩
  rw [relV_sc.1 hy]
  unfold Instr.entryStore
  simp only [Sem.run_bind, Result.andThen_ok, run_getObj_map hw, asInt, asIntOf, pure_bind, g2', r1]
end
end Go.Proofs.Ythlcnklbeolhpaa.Ev

/-! EvOp -/
namespace Go.Proofs.Ythlcnklbeolhpaa.Ev
open Go Go.RowKit
section
variable {P : Program} {ρ : Rho} {st : St} {w : World} {ev : Operand → Option AV}

/-- What is known of the callees. -/
def CallOk (P : Program) (call : FuncId → List AV → St → Option (AV × St)) : Prop :=
  ∀ g args st v st', call g args st = some (v, st') → ∀ ρ xs w, RelL ρ args xs → RelH ρ st w →
    Calls P g xs.toArray w fun e w' => ∃ ρ' y, e = .returned y ∧ RelV ρ' v y ∧ RelH ρ' st' w' ∧ Fr ρ st w ρ' st' w'

theorem callFunc_run {g : FuncId} (h : callable P g = true) (args : Array Value) (w : World) : (callFunc g args).run P w = .ok (.enter g args) w := by
  unfold callable at h
  split at h
  · rename_i fn hf
    simp only [Bool.and_eq_true, Bool.not_eq_true'] at h
    unfold callFunc
    rw [Sem.run_bind, run_program]
    simp only [Result.andThen_ok, hf]
    have h2 : fn.body.isNone = false := by cases hb : fn.body <;> simp_all
    simp [h.2, h2]
  · cases h

theorem OpOk.call {o : Oper} {a : Act} {call : FuncId → List AV → St → Option (AV × St)} (hcall : CallOk P call) (H : RelH ρ st w) {g : FuncId} {as : List AV} {xs : List Value} {v : AV} {st' : St} (e : call g as st = some (v, st')) (hl : RelL ρ as xs)
    (h : (execOp a.eval o).run P w = .ok (.enter g xs.toArray) w) : OpOk P o a w ρ st v st' := by
  intro K Q hK
  unfold Oper.wp; rw [h]
  rw [Oper.upon_enter]
  refine (hcall g as st v st' e ρ xs w hl H).mono ?_
  rintro e' w' ⟨ρ', y, rfl, h1, h2, h3⟩
  exact hK y ρ' w' h1 h2 h3

theorem calleeA_sound {f : AV} {args as : List AV} {x : Value} {xs : List Value} {g : FuncId} (hx : RelV ρ f x) (hl : RelL ρ args xs) (e : calleeA f args = some (g, as)) (hc : callable P g = true) :
    ∃ ys : List Value, RelL ρ as ys ∧ (do let d ← Deferred.ofValue x xs.toArray; invoke d.target d.args : Sem Next).run P w = .ok (.enter g ys.toArray) w := by
  unfold calleeA at e
  split at e
  · rename_i g' first captured
    simp only [Option.some.injEq, Prod.mk.injEq] at e
    obtain ⟨rfl, rfl⟩ := e
    obtain ⟨fs, cs, h1, h2, rfl⟩ := relV_fn.1 hx
    refine ⟨fs ++ xs ++ cs, (h1.append hl).append h2, ?_⟩
    simp only [Deferred.ofValue, pure_bind, invoke]
    rw [callFunc_run hc]; simp
  · rename_i g' first captured
    simp only [Option.some.injEq, Prod.mk.injEq] at e
    obtain ⟨rfl, rfl⟩ := e
    rw [relV_sc.1 hx]
    refine ⟨first.toList ++ xs ++ captured.toList, ((RelL.scs _).append hl).append (RelL.scs _), ?_⟩
    simp only [Deferred.ofValue, pure_bind, invoke]
    rw [callFunc_run hc]
    congr 2
    apply Array.toList_inj.1; simp
  · cases e

theorem invokeA_sound {r : AV} {name : String} {args as : List AV} {x : Value} {xs : List Value} {g : FuncId} (hx : RelV ρ r x) (hl : RelL ρ args xs) (e : invokeA P r name args = some (g, as)) (hc : callable P g = true) :
    ∃ ys : List Value, RelL ρ as ys ∧ (callMethod x name xs.toArray).run P w = .ok (.enter g ys.toArray) w := by
  unfold invokeA at e
  split at e
  case h_1 => cases e
  rename_i t v hdyn
  obtain ⟨y, rfl, hy⟩ := dynA_sound hx hdyn
  split at e
  case h_1 => cases e
  rename_i info hi
  split at e
  case h_1 => cases e
  rename_i m hm
  have hinfo := semP_run _ _ hi w
  have main : ∀ f, (do let (f, receiver) ← method (P.types.size + Made.depth) t y name; callFunc f (#[receiver] ++ xs.toArray) : Sem Next).run P w = .ok (.enter f ((y :: xs).toArray)) w →
      (callMethod (.iface t y) name xs.toArray).run P w = .ok (.enter f ((y :: xs).toArray)) w := by
    intro f hf
    unfold callMethod
    simp only
    rw [Sem.run_bind, run_program]; simp only [Result.andThen_ok]
    exact hf
  have meth : ∀ f pr, m.path.isEmpty = true → m.func = some (f, pr) → (∀ wr, (receiverAt t (.val y) pr wr).run P w = .ok y w) → callable P f = true →
      (callMethod (.iface t y) name xs.toArray).run P w = .ok (.enter f ((y :: xs).toArray)) w := by
    intro f pr hp hf hr hcf
    refine main f ?_
    rw [Sem.run_bind]
    have hm1 : (method (P.types.size + Made.depth) t y name).run P w = .ok (f, y) w := by
      show (method ((P.types.size + 99) + 1) t y name).run P w = _
      unfold method
      rw [Sem.run_bind, hinfo]; simp only [Result.andThen_ok, hm]
      have hpl : m.path.toList = [] := by simpa using hp
      simp only [hpl, follow, pure_bind, hf]
      rw [Sem.run_bind, hr]; rfl
    rw [hm1]; simp only [Result.andThen_ok]
    rw [callFunc_run hcf]
    congr 2
    apply Array.toList_inj.1; simp
  split at e
  · rename_i f pr d hp hf hd
    split at e
    · rename_i el
      simp only [Option.some.injEq, Prod.mk.injEq] at e
      obtain ⟨rfl, rfl⟩ := e
      exact ⟨y :: xs, RelL.cons hy hl, meth f true hp hf (fun wr => by unfold receiverAt; rw [Sem.run_bind, run_under hd]; rfl) hc⟩
    · cases e
    · rename_i hnp
      simp only [Option.some.injEq, Prod.mk.injEq] at e
      obtain ⟨rfl, rfl⟩ := e
      exact ⟨y :: xs, RelL.cons hy hl, meth f false hp hf (fun wr => by
        unfold receiverAt; rw [Sem.run_bind, run_under hd]; simp only [Result.andThen_ok]
        cases d <;> first | rfl | exact absurd rfl (hnp _)) hc⟩
    · cases e
  · cases e

/-- The other operations. -/
theorem evW_sound {call : FuncId → List AV → St → Option (AV × St)} (hcall : CallOk P call) (H : RelH ρ st w) {a : Act} (E : EvOk ρ ev a.eval) {o : Oper} {v : AV} {st' : St} (e : evW P call ev st o = some (v, st')) : OpOk P o a w ρ st v st' := by
  unfold evW at e
  split at e
  · rename_i t p x ho
    split at e
    case h_2 => cases e
    rename_i pa va hpa hva
    split at e
    case h_2 => cases e
    rename_i st1 hst
    simp only [Option.some.injEq, Prod.mk.injEq] at e
    obtain ⟨rfl, rfl⟩ := e
    obtain ⟨w', r1, r2, r3⟩ := storeA_sound (P := P) H (E _ _ hpa) (E _ _ hva) hst
    exact OpOk.skip (by unfold execOp; rw [ho]; exact run_u r1) r2 r3
  · rename_i t m k x ho
    split at e
    case h_2 => cases e
    rename_i ma ka va hma hka hva
    split at e
    case h_2 => cases e
    rename_i st1 hst
    simp only [Option.some.injEq, Prod.mk.injEq] at e
    obtain ⟨rfl, rfl⟩ := e
    obtain ⟨w', r1, r2, r3⟩ := evMapUpdate_sound (P := P) H (E _ _ hma) (E _ _ hka) (E _ _ hva) hst
    exact OpOk.skip (by unfold execOp; rw [ho]; exact run_u r1) r2 r3
  · rename_i t m k x ho
    split at e
    case h_2 => cases e
    rename_i ma ka va hma hka hva
    split at e
    case h_2 => cases e
    rename_i st1 hst
    simp only [Option.some.injEq, Prod.mk.injEq] at e
    obtain ⟨rfl, rfl⟩ := e
    obtain ⟨w', r1, r2, r3⟩ := evMapUpdate_sound (P := P) H (E _ _ hma) (E _ _ hka) (E _ _ hva) hst
    exact OpOk.skip (by unfold execOp; rw [ho]; exact run_u r1) r2 r3
  · rename_i t m k ho
    split at e
    case h_2 => cases e
    rename_i ma ka hma hka
    obtain ⟨z, w', r1, r2, r3, r4⟩ := evMapEntry_sound (P := P) H (E _ _ hma) (E _ _ hka) e
    exact OpOk.value (by unfold execOp; rw [ho]; exact run_v r1) r2 r3 r4
  · rename_i t m s x ho
    split at e
    case h_2 => cases e
    rename_i ma sa va hma hsa hva
    split at e
    case h_2 => cases e
    rename_i st1 hst
    simp only [Option.some.injEq, Prod.mk.injEq] at e
    obtain ⟨rfl, rfl⟩ := e
    obtain ⟨w', r1, r2, r3⟩ := evEntryStore_sound (P := P) (t := t) H (E _ _ hma) (E _ _ hsa) (E _ _ hva) hst
    exact OpOk.skip (by unfold execOp; rw [ho]; exact run_u r1) r2 r3
  · rename_i c ho
    split at e
    · -- append
      rename_i s x hc hargs
      split at e
      case h_2 => cases e
      rename_i sT xT hsT hxT
      have hL := evXs_sound E hargs
      obtain ⟨y, ys, hy, hys, hcs⟩ := hL.cons_inv
      obtain ⟨z, zs, hz, hzs, rfl⟩ := hys.cons_inv
      have := RelL.nil_iff.1 hzs
      subst this
      have fin : ∀ zeros d, P.underlying xT = some d → (if zeros then ∃ k, d = .int k else ∀ k, d ≠ .int k) → appendA P st sT zeros s x = some (v, st') → OpOk P o a w ρ st v st' := by
        intro zeros d hd hzd ea
        obtain ⟨r, w', ρ', r1, r2, r3, r4⟩ := appendA_sound (P := P) (ty := o.type) H hsT hxT hd hzd hy hz ea
        refine OpOk.value ?_ r2 r3 r4
        unfold execOp; rw [ho]
        simp only
        rw [Sem.run_bind, resolve_builtin hc]
        simp only [Sem.run_pure, Result.andThen_ok, invoke]
        rw [toArr c.args a.eval, hcs]
        exact run_v r1
      split at e
      · rename_i k hd
        exact fin true _ hd (by simp) e
      · rename_i d hnd hd
        exact fin false _ hd (by simp; exact fun k hk => hnd k hk) e
      · cases e
    · -- copy
      rename_i i k n z c' x hc hargs
      split at e
      case h_2 => cases e
      rename_i dT hdT
      split at e
      case h_2 => cases e
      rename_i el hel
      split at e
      case h_2 => cases e
      rename_i size hs
      split at e
      case h_2 => cases e
      rename_i j k' n' z' c2
      split at e
      case h_2 => cases e
      rename_i l hl
      split at e
      case h_2 => cases e
      rename_i st1 hst
      simp only [Option.some.injEq, Prod.mk.injEq] at e
      obtain ⟨rfl, rfl⟩ := e
      have hL := evXs_sound E hargs
      obtain ⟨y, ys, hy, hys, hcs⟩ := hL.cons_inv
      obtain ⟨zz, zs, hz, hzs, rfl⟩ := hys.cons_inv
      have := RelL.nil_iff.1 hzs
      subst this
      obtain ⟨pa, cap, ha, hn, _, rfl⟩ := relV_sl.1 hy
      obtain ⟨qa, cap', hqa, hn', _, rfl⟩ := relV_sl.1 hz
      have key : ∃ w', (Builtin.copy_ c.argTypes o.type #[.slice (some pa) n cap, .slice (some qa) n' cap']).run P w = .ok (goInt (Nat.min n' n)) w' ∧ RelH ρ st1 w' ∧ Fr ρ st w ρ st1 w' := by
        by_cases h0 : Nat.min n' n = 0
        · rw [h0] at hl
          simp only [Nat.zero_mul, rdCells, Option.some.injEq] at hl
          subst hl
          simp only [wrCells, Option.some.injEq] at hst
          subst hst
          refine ⟨w, ?_, H, Fr.refl _ _ _ H⟩
          unfold Builtin.copy_
          simp only [hdT, List.getElem?_toArray, List.getElem?_cons_zero, List.getElem?_cons_succ, Sem.run_bind, run_under hel, Result.andThen_ok, Builtin.lenOf, Sem.run_pure, semP_run _ _ hs w, Builtin.firstCells, h0, Nat.zero_mul]
          rfl
        · have hmin : Nat.min n' n ≤ n ∧ Nat.min n' n ≤ n' := ⟨Nat.min_le_right _ _, Nat.min_le_left _ _⟩
          obtain ⟨xs, g1, g2, g3⟩ := run_loadCells_rel (P := P) H hl (hqa (by omega)).1
          obtain ⟨w', r1, r2, r3⟩ := RelH.wrs H hst (ha (by omega)).1 g1 P 0 pa (by unfold Addr.add; rw [if_pos rfl])
          refine ⟨w', ?_, r2, r3⟩
          unfold Builtin.copy_
          simp only [hdT, List.getElem?_toArray, List.getElem?_cons_zero, List.getElem?_cons_succ, Sem.run_bind, run_under hel, Result.andThen_ok, Builtin.lenOf, Sem.run_pure, semP_run _ _ hs w, Builtin.firstCells, g3, r1]
      obtain ⟨w', r1, r2, r3⟩ := key
      refine OpOk.value ?_ (RelV.sc _) r2 r3
      unfold execOp; rw [ho]
      simp only
      rw [Sem.run_bind, resolve_builtin hc]
      simp only [Sem.run_pure, Result.andThen_ok, invoke]
      rw [toArr c.args a.eval, hcs]
      exact run_v r1
    · -- a function value
      rename_i f args hc hargs
      split at e
      case h_2 => cases e
      rename_i fv hfv
      split at e
      case h_2 => cases e
      rename_i g as hca
      cases hcb : callable P g with
      | false => rw [hcb] at e; cases e
      | true =>
        rw [hcb] at e; simp only [cond_true] at e
        obtain ⟨ys, h1, h2⟩ := calleeA_sound (P := P) (w := w) (E f fv hfv) (evXs_sound E hargs) hca hcb
        refine OpOk.call hcall H e h1 ?_
        unfold execOp; rw [ho]
        simp only
        unfold resolve
        simp only [hc]
        rw [toArr c.args a.eval]
        exact h2
    · -- a method of an interface
      rename_i r name args hc hargs
      split at e
      case h_2 => cases e
      rename_i rv hrv
      split at e
      case h_2 => cases e
      rename_i g as hca
      cases hcb : callable P g with
      | false => rw [hcb] at e; cases e
      | true =>
        rw [hcb] at e; simp only [cond_true] at e
        obtain ⟨ys, h1, h2⟩ := invokeA_sound (P := P) (w := w) (E r rv hrv) (evXs_sound E hargs) hca hcb
        refine OpOk.call hcall H e h1 ?_
        unfold execOp; rw [ho]
        simp only
        unfold resolve
        simp only [hc, pure_bind, invoke]
        rw [toArr c.args a.eval]
        have e1 : (#[a.eval r] ++ (c.args.toList.map a.eval).toArray)[0]? = some (a.eval r) := by simp
        have e2 : (#[a.eval r] ++ (c.args.toList.map a.eval).toArray).extract 1 (#[a.eval r] ++ (c.args.toList.map a.eval).toArray).size = (c.args.toList.map a.eval).toArray := by
          apply Array.toList_inj.1; simp [List.take_of_length_le]
        simp only [e1, e2]
        exact h2
    · cases e
  · cases e

/-- An operation. -/
theorem evOp_sound {call : FuncId → List AV → St → Option (AV × St)} (hcall : CallOk P call) (H : RelH ρ st w) {a : Act} (E : EvOk ρ ev a.eval) {o : Oper} {v : AV} {st' : St} (e : evOp P call ev st o = some (v, st')) : OpOk P o a w ρ st v st' := by
  unfold evOp at e
  split at e
  · split at e
    case h_2 => cases e
    rename_i v' hv
    simp only [Option.some.injEq, Prod.mk.injEq] at e
    obtain ⟨rfl, rfl⟩ := e
    obtain ⟨y, h1, h2⟩ := evQ_sound (P := P) H E hv
    exact OpOk.value h1 h2 H (Fr.refl _ _ _ H)
  · split at e
    case h_2 => cases e
    rename_i v' ao hv
    simp only [Option.some.injEq, Prod.mk.injEq] at e
    obtain ⟨rfl, rfl⟩ := e
    obtain ⟨y, w', p, h1, h2, h3, h4, h5, h6⟩ := evF_sound (P := P) H E H.freshNone (Nat.lt_succ_self _) (Nat.le_succ _) hv
    exact OpOk.value h1 h2 h3 (Below.fr H h5 h4 ao h6)
  · exact evW_sound hcall H E e
end
end Go.Proofs.Ythlcnklbeolhpaa.Ev

/-! EvSeq -/
namespace Go.Proofs.Ythlcnklbeolhpaa.Ev
open Go Go.RowKit
section
variable {P : Program} {D : List Deferred} {ρ : Rho} {st : St} {w : World}

/-- The slots of a frame. -/
structure RelA (D : List Deferred) (ρ : Rho) (tm : T AV) (n : Nat) (a : Act) : Prop where
  size : a.tmps.size = n
  defers : a.defers = D
  rel : ∀ t v, tm.get t = some v → t < n ∧ RelV ρ v (a.tmps.getD t undef)

theorem RelA.mono {ρ ρ' : Rho} {tm : T AV} {n : Nat} {a : Act} (h : RelA D ρ tm n a) (hx : Ext ρ ρ') : RelA D ρ' tm n a :=
  ⟨h.size, h.defers, fun t v e => ⟨(h.rel t v e).1, RelV.mono hx _ _ (h.rel t v e).2⟩⟩
theorem RelA.ok {tm : T AV} {n : Nat} {a : Act} (h : RelA D ρ tm n a) : EvOk ρ (evX tm) a.eval := by
  intro x v e
  cases x with
  | tmp t => exact (h.rel t v e).2
  | const u => simp only [evX, Option.some.injEq] at e; subst e; exact RelV.sc _
  | global g => simp [evX] at e
  | func f => simp only [evX, Option.some.injEq] at e; subst e; exact RelV.sc _

theorem wantedA_sound {ops : Array Oper} {get : Nat → Option AV} {tmps : Array Value} (hget : ∀ d v, get d = some v → d < tmps.size ∧ RelV ρ v (tmps.getD d undef)) {o : Oper} {b : Bool} (e : wantedA ops.toList get o = some b) :
    Region.wanted o (yielded ops tmps) = b := by
  unfold wantedA at e
  unfold Region.wanted
  split at e
  · rename_i hg
    simp only [Option.some.injEq] at e; subst e
    rw [hg]
  · rename_i j want hg
    rw [hg]
    simp only
    split at e
    case h_2 => cases e
    rename_i og hog
    split at e
    case h_2 => cases e
    rename_i d hd
    have hy : yielded ops tmps j = (match tmps[d]? with | some (.bool b) => some b | _ => none) := by
      unfold yielded
      have : ops[j]? = some og := by simpa using hog
      rw [this]; simp [hd]; rfl
    rw [hy]
    split at e
    · rename_i b' hb'
      obtain ⟨h1, h2⟩ := hget d _ hb'
      have := relV_sc.1 h2
      have e2 : tmps[d]? = some (.bool b') := by
        rw [Array.getD_eq_getD_getElem?, Array.getElem?_eq_getElem h1] at this
        rw [Array.getElem?_eq_getElem h1]; simpa using this
      rw [e2]
      simp only [Option.some.injEq] at e; subst e
      cases b' <;> cases want <;> rfl
    · rename_i v hnb hb'
      simp only [Option.some.injEq] at e; subst e
      obtain ⟨h1, h2⟩ := hget d _ hb'
      have hne : ∀ c, tmps[d]? ≠ some (.bool c) := by
        intro c hc
        have hv : tmps.getD d undef = .bool c := by rw [Array.getD_eq_getD_getElem?, hc]; rfl
        rw [hv] at h2
        cases v with
        | sc u => have := relV_sc.1 h2; subst this; exact hnb c rfl
        | ptr i k => obtain ⟨_, _, h⟩ := relV_ptr.1 h2; cases h
        | sl i k n z c => obtain ⟨_, _, _, _, _, h⟩ := relV_sl.1 h2; cases h
        | mp i => obtain ⟨_, _, h⟩ := relV_mp.1 h2; cases h
        | fn f l m => obtain ⟨_, _, _, _, h⟩ := relV_fn.1 h2; cases h
        | ifc t u => obtain ⟨_, _, h⟩ := relV_ifc.1 h2; cases h
        | agg l => obtain ⟨_, _, h⟩ := relV_agg.1 h2; cases h
        | tup l => obtain ⟨_, _, h⟩ := relV_tup.1 h2; cases h
        | res k m r => obtain ⟨_, _, _, h⟩ := relV_res.1 h2; cases h
      cases hd2 : tmps[d]? with
      | none => rfl
      | some u =>
        cases u with
        | bool c => exact absurd hd2 (hne c)
        | _ => rfl
    · cases e

theorem RelA.put {tm tm' : T AV} {n : Nat} {a : Act} (h : RelA D ρ tm n a) {dst : Option Tmp} {v : AV} {y : Value} (e : putA n tm dst v = some tm') (hv : RelV ρ v y) : RelA D ρ tm' n (a.put dst y) := by
  unfold putA at e
  cases dst with
  | none => simp only [Option.some.injEq] at e; subst e; exact h
  | some d =>
    simp only at e
    cases hb : d.blt n with
    | false => rw [hb] at e; cases e
    | true =>
      rw [hb] at e; simp only [cond_true, Option.some.injEq] at e; subst e
      have hlt : d < n := by simpa [Nat.blt_eq] using hb
      refine ⟨by simp [Act.put, h.size], h.defers, fun t u hu => ?_⟩
      by_cases htd : t = d
      · subst htd
        rw [T.get_put_same] at hu; cases hu
        exact ⟨hlt, by simp [Act.put, h.size, hlt]; exact hv⟩
      · rw [T.get_put_ne _ _ _ htd] at hu
        obtain ⟨h1, h2⟩ := h.rel t u hu
        refine ⟨h1, ?_⟩
        have : (a.put (some d) y).tmps.getD t undef = a.tmps.getD t undef := by
          simp [Act.put, Array.getD_eq_getD_getElem?, Array.getElem?_setIfInBounds_ne (fun e => htd e.symm)]
        rw [this]; exact h2

theorem evSeq_sound {call : FuncId → List AV → St → Option (AV × St)} (hcall : CallOk P call) {n : Nat} {ops : Array Oper} {Q : Exit → Act → World → Prop} :
    ∀ (os : List Oper) (i : Nat), ops.toList.drop i = os → ∀ {ρ : Rho} {tm tm' : T AV} {st st' : St} {a : Act} {w : World}, evSeq P call n ops.toList os tm st = some (tm', st') → RelA D ρ tm n a → RelH ρ st w →
      (∀ ρ' a' w', RelA D ρ' tm' n a' → RelH ρ' st' w' → Fr ρ st w ρ' st' w' → Q .normal a' w') → wpOps P ops Q (List.range' i os.length) a w
  | [], i, _, ρ, tm, tm', st, st', a, w, e, hA, hH, hQ => by
    simp only [evSeq, Option.some.injEq, Prod.mk.injEq] at e
    obtain ⟨rfl, rfl⟩ := e
    exact hQ ρ a w hA hH (Fr.refl _ _ _ hH)
  | o :: os, i, hd, ρ, tm, tm', st, st', a, w, e, hA, hH, hQ => by
    have hlt : i < ops.toList.length := by
      rcases Nat.lt_or_ge i ops.toList.length with h | h
      · exact h
      · rw [List.drop_eq_nil_of_le h] at hd; cases hd
    have ho : ops[i]? = some o := by
      rw [List.drop_eq_getElem_cons hlt] at hd
      have := (List.cons.inj hd).1
      rw [← this]; simp at hlt ⊢
    have hd' : ops.toList.drop (i + 1) = os := by
      rw [List.drop_eq_getElem_cons hlt] at hd
      exact (List.cons.inj hd).2
    simp only [evSeq] at e
    rw [List.length_cons, List.range'_succ]
    show wpOps P ops Q (i :: List.range' (i + 1) os.length) a w
    rw [wpOps_cons]
    unfold wpOp
    rw [ho]
    simp only
    split at e
    · cases e
    · rename_i hw
      have hwant := wantedA_sound (ρ := ρ) (ops := ops) (tmps := a.tmps) (fun d v h => by rw [hA.size]; exact hA.rel d v h) hw
      split at e
      case h_2 => cases e
      rename_i tm1 hp
      rw [hwant]
      simp only [Bool.false_eq_true, if_false]
      exact evSeq_sound hcall os (i + 1) hd' e (hA.put hp (RelV.sc _)) hH hQ
    · rename_i hw
      have hwant := wantedA_sound (ρ := ρ) (ops := ops) (tmps := a.tmps) (fun d v h => by rw [hA.size]; exact hA.rel d v h) hw
      split at e
      case h_1 => cases e
      rename_i v st1 hop
      split at e
      case h_2 => cases e
      rename_i tm1 hp
      rw [hwant]
      simp only [if_true]
      refine .inl (evOp_sound hcall hH hA.ok hop _ _ fun y ρ' w' h1 h2 h3 => ?_)
      exact evSeq_sound hcall os (i + 1) hd' e ((hA.mono (h3.ext hH)).put hp h1) h2 (fun ρ'' a' w'' k1 k2 k3 => hQ ρ'' a' w'' k1 k2 (h3.trans k3))
end
end Go.Proofs.Ythlcnklbeolhpaa.Ev

/-! EvDraw -/
namespace Go.Proofs.Ythlcnklbeolhpaa.Ev
open Go Go.RowKit

/-! ## Static facts -/
theorem testBit_lor (a b i : Nat) : (a ||| b).testBit i = (a.testBit i || b.testBit i) := Nat.testBit_or _ _ _
theorem testBit_land (a b i : Nat) : (a &&& b).testBit i = (a.testBit i && b.testBit i) := Nat.testBit_and _ _ _
theorem testBit_pow (i j : Nat) : (2 ^ i).testBit j = decide (i = j) := Nat.testBit_two_pow ..

theorem orP_bit {anc : T Nat} : ∀ {l : List Nat} {i : Nat}, (orP anc l).testBit i = true → ∃ e ∈ l, e = i ∨ ((anc.get e).getD 0).testBit i = true
  | [], i, h => by simp [orP] at h
  | e :: es, i, h => by
    simp only [orP, testBit_lor, Bool.or_eq_true, testBit_pow, decide_eq_true_eq] at h
    rcases h with (h | h) | h
    · exact ⟨e, by simp, .inl h⟩
    · exact ⟨e, by simp, .inr h⟩
    · obtain ⟨e', h1, h2⟩ := orP_bit h
      exact ⟨e', List.mem_cons_of_mem _ h1, h2⟩
theorem orP_mem {anc : T Nat} : ∀ {l : List Nat} {e : Nat}, e ∈ l → (orP anc l).testBit e = true
  | _ :: es, e, h => by
    simp only [orP, testBit_lor, Bool.or_eq_true, testBit_pow, decide_eq_true_eq]
    rcases List.mem_cons.1 h with h | h
    · exact .inl (.inl h.symm)
    · exact .inr (orP_mem h)

/-- What 'ancs' gives: from j on each operation's mask, made of the masks before. -/
theorem ancs_spec : ∀ (os : List Oper) (j : Nat) (t : T Nat), (∀ i, j ≤ i → t.get i = none) →
    (∀ i, i < j → (ancs os j t).get i = t.get i) ∧
    (∀ k o, os[k]? = some o → ∃ t', (ancs os j t).get (j + k) = some (orP t' (preds o)) ∧ (∀ i, i < j + k → t'.get i = (ancs os j t).get i) ∧ (∀ i, j + k ≤ i → t'.get i = none))
  | [], j, t, _ => ⟨fun _ _ => rfl, fun k o h => by simp at h⟩
  | o :: os, j, t, hn => by
    have hn' : ∀ i, j + 1 ≤ i → (t.put j (orP t (preds o))).get i = none := fun i hi => by rw [T.get_put_ne _ _ _ (by omega)]; exact hn i (by omega)
    obtain ⟨h1, h2⟩ := ancs_spec os (j + 1) (t.put j (orP t (preds o))) hn'
    refine ⟨fun i hi => ?_, fun k o' hk => ?_⟩
    · simp only [ancs]; rw [h1 i (by omega), T.get_put_ne _ _ _ (by omega)]
    · cases k with
      | zero =>
        simp at hk; subst hk
        simp only [ancs]
        refine ⟨t, ?_, fun i hi => ?_, fun i hi => hn i (by omega)⟩
        · show (ancs os (j + 1) (t.put j (orP t (preds o)))).get j = _
          rw [h1 j (by omega), T.get_put_same]
        · rw [h1 i (by omega), T.get_put_ne _ _ _ (by omega)]
      | succ k =>
        simp only [ancs]
        obtain ⟨t', g1, g2, g3⟩ := h2 k o' (by simpa using hk)
        exact ⟨t', by rw [show j + (k + 1) = j + 1 + k by omega]; exact g1, fun i hi => g2 i (by omega), fun i hi => g3 i (by omega)⟩

/-- A set that holds the predecessors of each of its members holds all that its members' masks name. -/
theorem closed_anc {ops : List Oper} {L : Nat → Prop} {j : Nat} (hL : ∀ k o, k ≤ j → L k → ops[k]? = some o → ∀ e ∈ preds o, L e) : ∀ k, k ≤ j → L k → ∀ i, (an (ancs ops 0 .leaf) k).testBit i = true → L i := by
  intro k
  induction k using Nat.strongRecOn with
  | _ k ih =>
    intro hkj hk i hi
    have S := ancs_spec ops 0 .leaf (fun i _ => T.get_leaf i)
    cases ho : ops[k]? with
    | none =>
      exfalso
      have : ∀ (os : List Oper) (j : Nat) (t : T Nat) (i : Nat), j + os.length ≤ i → (ancs os j t).get i = t.get i := by
        intro os
        induction os with
        | nil => intro j t i _; rfl
        | cons o os ih => intro j t i h; simp only [ancs]; rw [ih _ _ _ (by simp at h; omega), T.get_put_ne _ _ _ (by simp at h; omega)]
      have hge : ops.length ≤ k := List.getElem?_eq_none_iff.1 ho
      unfold an at hi
      rw [this ops 0 .leaf k (by omega)] at hi
      simp [T.get_leaf] at hi
    | some o =>
      obtain ⟨t', g1, g2, g3⟩ := S.2 k o ho
      rw [Nat.zero_add] at g1 g2 g3
      unfold an at hi
      rw [g1] at hi
      simp only [Option.getD_some] at hi
      obtain ⟨e, he, hei⟩ := orP_bit hi
      have hLe := hL k o hkj hk ho e he
      rcases hei with rfl | hei
      · exact hLe
      · by_cases hek : e < k
        · rw [g2 e hek] at hei
          exact ih e hek (by omega) hLe i hei
        · rw [g3 e (by omega)] at hei
          simp at hei

theorem wrs_spec : ∀ {os : List Oper} {j : Nat} {t wr : T Nat}, wrs os j t = some wr →
    (∀ d i, t.get d = some i → wr.get d = some i) ∧ (∀ k o d, os[k]? = some o → o.dst = some d → wr.get d = some (j + k)) ∧
    (∀ d i, wr.get d = some i → t.get d = some i ∨ ∃ k o, i = j + k ∧ os[k]? = some o ∧ o.dst = some d)
  | [], j, t, wr, e => by
    simp only [wrs, Option.some.injEq] at e; subst e
    exact ⟨fun _ _ h => h, fun k o d h => by simp at h, fun _ _ h => .inl h⟩
  | o :: os, j, t, wr, e => by
    simp only [wrs] at e
    split at e
    · rename_i hd
      obtain ⟨h1, h2, h3⟩ := wrs_spec e
      refine ⟨h1, fun k o' d hk hod => ?_, fun d i h => ?_⟩
      · cases k with
        | zero => simp at hk; subst hk; rw [hd] at hod; cases hod
        | succ k => rw [show j + (k + 1) = j + 1 + k by omega]; exact h2 k o' d (by simpa using hk) hod
      · rcases h3 d i h with h | ⟨k, o', hi, hk, hod⟩
        · exact .inl h
        · exact .inr ⟨k + 1, o', by omega, by simpa using hk, hod⟩
    · rename_i d0 hd
      split at e
      case h_2 => cases e
      rename_i hn
      obtain ⟨h1, h2, h3⟩ := wrs_spec e
      refine ⟨fun d i h => ?_, fun k o' d hk hod => ?_, fun d i h => ?_⟩
      · refine h1 d i ?_
        have : d ≠ d0 := by rintro rfl; rw [hn] at h; cases h
        rw [T.get_put_ne _ _ _ this]; exact h
      · cases k with
        | zero =>
          simp at hk; subst hk
          rw [hd] at hod; cases hod
          rw [Nat.add_zero]; exact h1 _ _ (T.get_put_same _ _ _)
        | succ k => rw [show j + (k + 1) = j + 1 + k by omega]; exact h2 k o' d (by simpa using hk) hod
      · rcases h3 d i h with h | ⟨k, o', hi, hk, hod⟩
        · by_cases hdd : d = d0
          · subst hdd; rw [T.get_put_same] at h; cases h
            exact .inr ⟨0, o, by omega, by simp, hd⟩
          · rw [T.get_put_ne _ _ _ hdd] at h; exact .inl h
        · exact .inr ⟨k + 1, o', by omega, by simpa using hk, hod⟩

theorem xsOf_spec : ∀ {os : List Oper} {j i : Nat}, i ∈ xsOf os j ↔ ∃ k o, i = j + k ∧ os[k]? = some o ∧ kindOf o.op = .x
  | [], j, i => by simp [xsOf]
  | o :: os, j, i => by
    have ih := fun i => xsOf_spec (os := os) (j := j + 1) (i := i)
    simp only [xsOf]
    constructor
    · intro h
      split at h
      · rename_i hk
        rcases List.mem_cons.1 h with rfl | h
        · exact ⟨0, o, by omega, by simp, hk⟩
        · obtain ⟨k, o', h1, h2, h3⟩ := (ih i).1 h
          exact ⟨k + 1, o', by omega, by simpa using h2, h3⟩
      · obtain ⟨k, o', h1, h2, h3⟩ := (ih i).1 h
        exact ⟨k + 1, o', by omega, by simpa using h2, h3⟩
    · rintro ⟨k, o', h1, h2, h3⟩
      cases k with
      | zero =>
        simp at h2; subst h2
        rw [h3]; simp; omega
      | succ k =>
        have := (ih i).2 ⟨k, o', by omega, by simpa using h2, h3⟩
        split
        · exact List.mem_cons_of_mem _ this
        · exact this
theorem xsOf_lt : ∀ {os : List Oper} {j : Nat}, (xsOf os j).Pairwise (· < ·) ∧ ∀ i ∈ xsOf os j, j ≤ i
  | [], j => ⟨List.Pairwise.nil, fun i h => by simp [xsOf] at h⟩
  | o :: os, j => by
    obtain ⟨h1, h2⟩ := xsOf_lt (os := os) (j := j + 1)
    simp only [xsOf]
    split
    · refine ⟨List.Pairwise.cons (fun i hi => by have := h2 i hi; omega) h1, fun i hi => ?_⟩
      rcases List.mem_cons.1 hi with rfl | hi
      · exact Nat.le_refl _
      · have := h2 i hi; omega
    · exact ⟨h1, fun i hi => by have := h2 i hi; omega⟩
theorem maskOf_bit : ∀ {l : List Nat} {i : Nat}, (maskOf l).testBit i = true ↔ i ∈ l
  | [], i => by simp [maskOf]
  | x :: xs, i => by
    simp only [maskOf, testBit_lor, testBit_pow, Bool.or_eq_true, decide_eq_true_eq, List.mem_cons, maskOf_bit (l := xs)]
    constructor
    · rintro (h | h)
      · exact .inl h.symm
      · exact .inr h
    · rintro (h | h)
      · exact .inl h.symm
      · exact .inr h
theorem predsOk_spec : ∀ {os : List Oper} {j : Nat}, predsOk os j = true → ∀ k o, os[k]? = some o → ∀ e ∈ preds o, e < j + k
  | [], j, _, k, o, h => by simp at h
  | o :: os, j, h, k, o', hk => by
    simp only [predsOk, Bool.and_eq_true, List.all_eq_true] at h
    cases k with
    | zero => simp at hk; subst hk; intro e he; simpa [Nat.blt_eq] using h.1 e he
    | succ k => intro e he; have := predsOk_spec h.2 k o' (by simpa using hk) e he; omega

/-! ## Equal values -/
mutual
theorem vsame_eq : ∀ (u v : Value), vsame u v = true → u = v
  | .int k n, v, h => by
    cases v <;> simp [vsame] at h; obtain ⟨rfl, rfl⟩ := h; rfl
  | .bool a, v, h => by
    cases v <;> simp [vsame] at h; subst h; rfl
  | .string a, v, h => by
    cases v <;> simp [vsame] at h
    rename_i b
    congr 1; exact ByteArray.ext (by cases hh : a.data; cases hh2 : b.data; simp_all)
  | .pointer none, v, h => by
    cases v with
    | pointer b => cases b <;> simp_all [vsame]
    | _ => simp [vsame] at h
  | .pointer (some _), v, h => by simp [vsame] at h
  | .slice none a b, v, h => by
    cases v with
    | slice c d e => cases c <;> simp_all [vsame]
    | _ => simp [vsame] at h
  | .slice (some _) _ _, v, h => by simp [vsame] at h
  | .map none, v, h => by
    cases v with
    | map b => cases b <;> simp_all [vsame]
    | _ => simp [vsame] at h
  | .map (some _), v, h => by simp [vsame] at h
  | .nilFunc, v, h => by cases v <;> simp [vsame] at h; rfl
  | .nilIface, v, h => by cases v <;> simp [vsame] at h; rfl
  | .iface t x, v, h => by
    cases v <;> simp [vsame] at h
    obtain ⟨h1, h2⟩ := h
    rw [h1, vsame_eq x _ h2]
  | .agg ⟨l⟩, v, h => by
    cases v with
    | agg m => obtain ⟨m⟩ := m; simp [vsame] at h; rw [vsameL_eq l m h]
    | _ => simp [vsame] at h
  | .tuple ⟨l⟩, v, h => by
    cases v with
    | tuple m => obtain ⟨m⟩ := m; simp [vsame] at h; rw [vsameL_eq l m h]
    | _ => simp [vsame] at h
  | .func f ⟨a⟩ ⟨b⟩, v, h => by
    cases v with
    | func g c d =>
      obtain ⟨c⟩ := c; obtain ⟨d⟩ := d
      simp [vsame] at h
      rw [h.1.1, vsameL_eq a c h.1.2, vsameL_eq b d h.2]
    | _ => simp [vsame] at h
  | .float _ _, v, h => by simp [vsame] at h
  | .complex _ _ _, v, h => by simp [vsame] at h
  | .chan _, v, h => by simp [vsame] at h
theorem vsameL_eq : ∀ (l m : List Value), vsameL l m = true → l = m
  | [], m, h => by cases m <;> simp [vsameL] at h; rfl
  | a :: l, m, h => by
    cases m with
    | nil => simp [vsameL] at h
    | cons b m =>
      simp only [vsameL, Bool.and_eq_true] at h
      rw [vsame_eq a b h.1, vsameL_eq l m h.2]
end
mutual
theorem same_eq : ∀ (u v : AV), u.same v = true → u = v
  | .sc x, v, h => by
    cases v <;> simp [AV.same] at h
    rw [vsame_eq _ _ h]
  | .ptr i k, v, h => by cases v <;> simp [AV.same] at h; rw [h.1, h.2]
  | .sl i k n z c, v, h => by cases v <;> simp [AV.same] at h; obtain ⟨⟨⟨⟨rfl, rfl⟩, rfl⟩, rfl⟩, rfl⟩ := h; rfl
  | .mp i, v, h => by cases v <;> simp [AV.same] at h; rw [h]
  | .fn f l m, v, h => by
    cases v <;> simp [AV.same] at h
    rw [h.1.1, sameL_eq _ _ h.1.2, sameL_eq _ _ h.2]
  | .ifc t x, v, h => by
    cases v <;> simp [AV.same] at h
    rw [h.1, same_eq _ _ h.2]
  | .agg l, v, h => by cases v <;> simp [AV.same] at h; rw [sameL_eq _ _ h]
  | .tup l, v, h => by cases v <;> simp [AV.same] at h; rw [sameL_eq _ _ h]
  | .res _ _ _, v, h => by cases v <;> simp [AV.same] at h
theorem sameL_eq : ∀ (l m : List AV), sameL l m = true → l = m
  | [], m, h => by cases m <;> simp [sameL] at h; rfl
  | a :: l, m, h => by
    cases m with
    | nil => simp [sameL] at h
    | cons b m =>
      simp only [sameL, Bool.and_eq_true] at h
      rw [same_eq a b h.1, sameL_eq l m h.2]
end
end Go.Proofs.Ythlcnklbeolhpaa.Ev

/-! EvDraw2 -/
namespace Go.Proofs.Ythlcnklbeolhpaa.Ev
open Go Go.RowKit

/-! ## Views -/
abbrev Pend := List (Nat × Nat × AO)
/-- The pending objects have numbers of their own. -/
def Apart (l : Pend) : Prop := l.Pairwise fun p q => p.1 ≠ q.1 ∧ p.2.1 ≠ q.2.1
theorem Apart.uniq1 : ∀ {l : Pend}, Apart l → ∀ {e e' : Nat × Nat × AO}, e ∈ l → e' ∈ l → e.1 = e'.1 → e = e'
  | x :: l, hd, e, e', he, he', h => by
    have P := List.pairwise_cons.1 hd
    rcases List.mem_cons.1 he with h1 | h1 <;> rcases List.mem_cons.1 he' with h2 | h2
    · rw [h1, h2]
    · subst h1; exact absurd h (P.1 _ h2).1
    · subst h2; exact absurd h.symm (P.1 _ h1).1
    · exact Apart.uniq1 P.2 h1 h2 h
theorem Apart.uniq2 : ∀ {l : Pend}, Apart l → ∀ {e e' : Nat × Nat × AO}, e ∈ l → e' ∈ l → e.2.1 = e'.2.1 → e = e'
  | x :: l, hd, e, e', he, he', h => by
    have P := List.pairwise_cons.1 hd
    rcases List.mem_cons.1 he with h1 | h1 <;> rcases List.mem_cons.1 he' with h2 | h2
    · rw [h1, h2]
    · subst h1; exact absurd h (P.1 _ h2).2
    · subst h2; exact absurd h.symm (P.1 _ h1).2
    · exact Apart.uniq2 P.2 h1 h2 h
theorem viewP_other {p : Nat → Bool} : ∀ {l : Pend} {h : T AO} {k : Nat}, (∀ e ∈ l, p e.1 = true → e.2.1 ≠ k) → (viewP p l h).get k = h.get k
  | [], _, _, _ => rfl
  | (j, id, ao) :: l, h, k, H => by
    simp only [viewP]
    rw [viewP_other (fun e he => H e (List.mem_cons_of_mem _ he))]
    cases hp : p j with
    | false => rfl
    | true => exact T.get_put_ne _ _ _ (fun e => H (j, id, ao) (by simp) hp e.symm)
theorem viewP_mem {p : Nat → Bool} : ∀ {l : Pend} {h : T AO}, Apart l → ∀ e ∈ l, p e.1 = true → (viewP p l h).get e.2.1 = some e.2.2
  | (j, id, ao) :: l, h, hd, e, he, hp => by
    simp only [viewP]
    rcases List.mem_cons.1 he with rfl | he
    · simp only at hp
      rw [viewP_other (fun e' he' _ => fun h' => ((List.pairwise_cons.1 hd).1 e' he').2 h'.symm), hp]
      exact T.get_put_same _ _ _
    · exact viewP_mem (List.pairwise_cons.1 hd).2 e he hp
theorem viewP_inv {p : Nat → Bool} {l : Pend} {h : T AO} (hd : Apart l) {k : Nat} {o : AO} (hg : (viewP p l h).get k = some o) :
    (∃ e ∈ l, p e.1 = true ∧ e.2.1 = k ∧ e.2.2 = o) ∨ ((∀ e ∈ l, p e.1 = true → e.2.1 ≠ k) ∧ h.get k = some o) := by
  by_cases hex : ∃ e ∈ l, p e.1 = true ∧ e.2.1 = k
  · obtain ⟨e, he, hp, rfl⟩ := hex
    rw [viewP_mem hd e he hp] at hg
    exact .inl ⟨e, he, hp, rfl, Option.some.inj hg⟩
  · have H : ∀ e ∈ l, p e.1 = true → e.2.1 ≠ k := fun e he hp hk => hex ⟨e, he, hp, hk⟩
    rw [viewP_other H] at hg
    exact .inr ⟨H, hg⟩
theorem viewP_sub {p q : Nat → Bool} {l l' : Pend} {h : T AO} (hd : Apart l) (hd' : Apart l') (hl : ∀ e ∈ l, p e.1 = true → e ∈ l' ∧ q e.1 = true) (hn : ∀ e ∈ l', h.get e.2.1 = none) {k : Nat} {o : AO}
    (hg : (viewP p l h).get k = some o) : (viewP q l' h).get k = some o := by
  rcases viewP_inv hd hg with ⟨e, he, hp, rfl, rfl⟩ | ⟨_, hg⟩
  · obtain ⟨h1, h2⟩ := hl e he hp
    exact viewP_mem hd' e h1 h2
  · rw [viewP_other (fun e he _ hk => by rw [← hk, hn e he] at hg; cases hg)]; exact hg

theorem RelH.sub {ρ : Rho} {h h1 : T AO} {nx : Nat} {w : World} (H : RelH ρ ⟨h, nx⟩ w) (hs : ∀ k o, h1.get k = some o → h.get k = some o) : RelH ρ ⟨h1, nx⟩ w := by
  refine ⟨fun i o hg => (H.obj i o (hs i o hg)).mono (Ext.refl _) (fun _ _ => rfl) (fun cl k s _ => ?_), H.dom, fun i j oi oj p q hi hj => H.sep i j oi oj p q (hs _ _ hi) (hs _ _ hj), fun i c lo hi cls t hg => H.stamp _ _ _ _ _ _ (hs _ _ hg), H.pos⟩
  rintro ⟨c, lo, hi, cl', t, hg, ht⟩
  exact ⟨c, lo, hi, cl', t, hs _ _ hg, ht⟩
theorem RelH.up {ρ : Rho} {h : T AO} {nx nx' : Nat} {w : World} (H : RelH ρ ⟨h, nx⟩ w) (hn : nx ≤ nx') : RelH ρ ⟨h, nx'⟩ w :=
  ⟨H.obj, fun i p hp => ⟨Nat.lt_of_lt_of_le (H.dom i p hp).1 hn, (H.dom i p hp).2⟩, H.sep, fun _ _ _ _ _ _ hg =>
    ⟨(H.stamp _ _ _ _ _ _ hg).1, fun k v s h => Nat.lt_of_lt_of_le ((H.stamp _ _ _ _ _ _ hg).2.1 k v s h) hn, fun k s h => Nat.lt_of_lt_of_le ((H.stamp _ _ _ _ _ _ hg).2.2 k s h) hn⟩, Nat.lt_of_lt_of_le H.pos hn⟩
theorem Fr.congr {ρ0 : Rho} {st0 : St} {w0 : World} {ρ : Rho} {h h1 : T AO} {nx nx' : Nat} {w : World} (F : Fr ρ0 st0 w0 ρ ⟨h, nx⟩ w) (hs : ∀ k o, h1.get k = some o → h.get k = some o) (hn : nx ≤ nx') : Fr ρ0 st0 w0 ρ ⟨h1, nx'⟩ w :=
  ⟨Nat.le_trans F.nx hn, F.old, F.new, fun i o hg => F.ids i o (hs _ _ hg), F.size, F.os, F.tape, F.output, F.keep, fun i o c hg => F.cls i o c (hs _ _ hg)⟩

/-- An object whose class is its own. -/
def OwnCls (i : Nat) (o : AO) : Prop := ∀ c, o.cls? = some c → c = i

/-- THE FRAME: what was run over a part of the objects holds beside the rest. -/
theorem RelH.frame {ρ : Rho} {h1 hL : T AO} {nx : Nat} {w : World} (H : RelH ρ ⟨hL, nx⟩ w) (hs : ∀ k o, h1.get k = some o → hL.get k = some o)
    {ρ' : Rho} {st' : St} {w' : World} (H' : RelH ρ' st' w') (F : Fr ρ ⟨h1, nx⟩ w ρ' st' w') {hN : T AO}
    (hN1 : ∀ k o, hN.get k = some o → (st'.h.get k = some o ∨ (h1.get k = none ∧ hL.get k = some o ∧ OwnCls k o ∧ (∀ j oj, h1.get j = some oj → oj.cls? ≠ some k))))
    (_hN2 : ∀ k o, st'.h.get k = some o → hN.get k = some o) : RelH ρ' ⟨hN, st'.nx⟩ w' ∧ Fr ρ ⟨hL, nx⟩ w ρ' ⟨hN, st'.nx⟩ w' := by
  have hext : Ext ρ ρ' := F.ext (H.sub hs)
  -- a block of the rest is no block of the part
  have hrest : ∀ k o p, h1.get k = none → hL.get k = some o → OwnCls k o → (∀ j oj, h1.get j = some oj → oj.cls? ≠ some k) → ρ k = some p → ¬ Img ρ h1 p.1 := by
    rintro k o p hk1 hkL hown hno hp ⟨j, oj, q, hj, hq, hqp⟩
    have hjk : j ≠ k := by rintro rfl; rw [hk1] at hj; cases hj
    obtain ⟨c, hc1, hc2, _⟩ := H.sep j k oj o q p (hs _ _ hj) hkL hjk hq hp hqp
    have := hown c hc2
    subst this
    exact hno j oj hj hc1
  have hkeep : ∀ k o p, h1.get k = none → hL.get k = some o → OwnCls k o → (∀ j oj, h1.get j = some oj → oj.cls? ≠ some k) → ρ k = some p → w'.heap[p.1]? = w.heap[p.1]? := fun k o p a b c d e =>
    F.keep p.1 (H.dom _ _ e).2 (hrest k o p a b c d e)
  -- the part's new objects do not touch the rest's blocks
  have hnew : ∀ k o p j oj q, h1.get k = none → hL.get k = some o → OwnCls k o → (∀ j oj, h1.get j = some oj → oj.cls? ≠ some k) → ρ k = some p → st'.h.get j = some oj → ρ' j = some q → q.1 = p.1 → False := by
    intro k o p j oj q a b c d hp hj hq hqp
    by_cases hjn : j < nx
    · obtain ⟨o', ho'⟩ := F.ids j oj hj hjn
      rw [F.old j hjn] at hq
      exact hrest k o p a b c d hp ⟨j, o', q, ho', hq, hqp⟩
    · rcases F.new j q (Nat.le_of_not_lt hjn) hq with h | h
      · have := (H.dom _ _ hp).2; omega
      · rw [hqp] at h; exact hrest k o p a b c d hp h
  constructor
  · refine ⟨fun i o hg => ?_, fun i p hp => H'.dom i p hp, fun i j oi oj p q hi hj hij h1' h2' h3' => ?_, fun i c lo hi cls t hg => ?_, H'.pos⟩
    · rcases hN1 i o hg with h | ⟨a, b, c, d⟩
      · refine (H'.obj i o h).mono (Ext.refl _) (fun _ _ => rfl) (fun cl k s hcl => ?_)
        rintro ⟨c2, lo, hi, cl', t, hr, ht⟩
        rcases hN1 cl _ hr with h' | ⟨a', b', c', d'⟩
        · exact ⟨c2, lo, hi, cl', t, h', ht⟩
        · exfalso
          have hcl' : cl < nx := H.has b'
          obtain ⟨j, oj, hj, hjc⟩ := F.cls i o cl h hcl hcl'
          exact d' j oj hj hjc
      · obtain ⟨p, hp⟩ := (H.obj i o b).at
        refine (H.obj i o b).mono hext (fun q hq => ?_) (fun cl k s hcl => ?_)
        · exact hkeep i o q a b c d hq
        · rintro ⟨c2, lo, hi, cl', t, hr, ht⟩
          have := c cl hcl
          subst this
          rw [hg] at hr; cases hr
          exact ⟨c2, lo, hi, cl', t, b, ht⟩
    · have low : ∀ m om s, h1.get m = none → hL.get m = some om → ρ' m = some s → ρ m = some s := by
        intro m om s _ b hs'
        rw [F.old m (H.has b)] at hs'; exact hs'
      rcases hN1 i oi hi with hi' | ⟨ai, bi, ci, di⟩
      · rcases hN1 j oj hj with hj' | ⟨aj, bj, cj, dj⟩
        · exact H'.sep i j oi oj p q hi' hj' hij h1' h2' h3'
        · exact (hnew j oj q i oi p aj bj cj dj (low j oj q aj bj h2') hi' h1' h3').elim
      · rcases hN1 j oj hj with hj' | ⟨aj, bj, cj, dj⟩
        · exact (hnew i oi p j oj q ai bi ci di (low i oi p ai bi h1') hj' h2' h3'.symm).elim
        · exact H.sep i j oi oj p q bi bj hij (low i oi p ai bi h1') (low j oj q aj bj h2') h3'
    · rcases hN1 i _ hg with h | ⟨a, b, c, d⟩
      · exact H'.stamp _ _ _ _ _ _ h
      · have S := H.stamp _ _ _ _ _ _ b
        obtain ⟨q, hq⟩ := S.1
        have hnx : nx ≤ st'.nx := F.nx
        exact ⟨⟨q, hext _ _ hq⟩, fun k v s h => Nat.lt_of_lt_of_le (S.2.1 k v s h) hnx, fun k s h => Nat.lt_of_lt_of_le (S.2.2 k s h) hnx⟩
  · refine ⟨F.nx, F.old, fun i p hi hp => (F.new i p hi hp).imp id ?_, fun i o hg hi => ?_, F.size, F.os, F.tape, F.output, fun b hb hn => F.keep b hb (fun hi => hn ?_), fun i o c hg hc hlt => ?_⟩
    · rintro ⟨j, oj, q, a, b⟩; exact ⟨j, oj, q, hs _ _ a, b⟩
    · rcases hN1 i o hg with h | ⟨_, b, _⟩
      · obtain ⟨o', ho'⟩ := F.ids i o h hi
        exact ⟨o', hs _ _ ho'⟩
      · exact ⟨o, b⟩
    · obtain ⟨j, oj, q, a, b⟩ := hi; exact ⟨j, oj, q, hs _ _ a, b⟩
    · rcases hN1 i o hg with h | ⟨_, b, _⟩
      · obtain ⟨j, oj, a, b⟩ := F.cls i o c h hc hlt
        exact ⟨j, oj, hs _ _ a, b⟩
      · exact ⟨i, o, b, hc⟩

/-! ## Values that grow -/
def Vle (a b : T AV) : Prop := ∀ i v, a.get i = some v → b.get i = some v
theorem Vle.refl (a : T AV) : Vle a a := fun _ _ h => h
theorem Vle.trans {a b c : T AV} (h : Vle a b) (k : Vle b c) : Vle a c := fun i v e => k i v (h i v e)
theorem Vle.put {a : T AV} {i : Nat} (h : a.get i = none) (v : AV) : Vle a (a.put i v) := fun j u e => by
  have : j ≠ i := by rintro rfl; rw [h] at e; cases e
  rw [T.get_put_ne _ _ _ this]; exact e
theorem slotG_mono {wr anc : T Nat} {tm vals vals' : T AV} (h : Vle vals vals') {i t : Nat} {v : AV} (e : slotG wr anc tm vals i t = some v) : slotG wr anc tm vals' i t = some v := by
  unfold slotG at e ⊢
  split at e
  · exact e
  · rename_i j hj
    cases hb : (an anc i).testBit j with
    | true => rw [hb] at e; simp only [cond_true] at e ⊢; exact h _ _ e
    | false => rw [hb] at e; simp only [cond_false] at e ⊢; exact e
theorem wantedA_mono {ops : List Oper} {g g' : Nat → Option AV} (h : ∀ d v, g d = some v → g' d = some v) {o : Oper} {b : Bool} (e : wantedA ops g o = some b) : wantedA ops g' o = some b := by
  unfold wantedA at e ⊢
  split at e
  · exact e
  · rename_i j want hg
    split at e
    case h_2 => cases e
    rename_i og hog
    split at e
    case h_2 => cases e
    rename_i d hd
    split at e
    · rename_i b' hb'; rw [h _ _ hb']; exact e
    · rename_i v hnb hb'
      rw [h _ _ hb']
      cases v with
      | sc u => cases u <;> first | exact e | exact (hnb _ rfl).elim
      | _ => exact e
    · cases e

theorem evQ_heap {P : Program} {ev : Operand → Option AV} {h h' : T AO} {o : Oper} (hh : heapOp o.op = false) : evQ P ev h o = evQ P ev h' o := by
  unfold evQ
  split <;> first | rfl | (rename_i ho; rw [ho] at hh; simp [heapOp] at hh)
end Go.Proofs.Ythlcnklbeolhpaa.Ev

/-! EvDraw3 -/
namespace Go.Proofs.Ythlcnklbeolhpaa.Ev
open Go Go.RowKit

section
variable {P : Program} {ops : List Oper} {anc wr : T Nat} {xm : Nat} {tm : T AV} {call : FuncId → List AV → St → Option (AV × St)}

/-- What is known of the values that a phase holds. -/
structure PhOk (P : Program) (ops : List Oper) (anc wr : T Nat) (tm : T AV) (ph : Ph) : Prop where
  vals : ∀ i u o, ops[i]? = some o → kindOf o.op ≠ .x → ph.vals.get i = some u → ∃ vals', Vle vals' ph.vals ∧
    ((wantedA ops (slotG wr anc tm vals' i) o = some false ∧ u = .sc undef) ∨
     (wantedA ops (slotG wr anc tm vals' i) o = some true ∧ ((kindOf o.op = .q ∧ ∃ h', evQ P (envG wr anc tm vals' i) h' o = some u) ∨
       (kindOf o.op = .f ∧ ∃ id ao, evF P (envG wr anc tm vals' i) id o = some (u, ao) ∧ (ph.gone.testBit i = false → (i, id, ao) ∈ ph.pend)))))
  pend : ∀ e ∈ ph.pend, ∃ o vals' u, ops[e.1]? = some o ∧ kindOf o.op = .f ∧ Vle vals' ph.vals ∧ wantedA ops (slotG wr anc tm vals' e.1) o = some true ∧
    evF P (envG wr anc tm vals' e.1) e.2.1 o = some (u, e.2.2) ∧ ph.vals.get e.1 = some u
  apart : Apart ph.pend
  lt : ∀ e ∈ ph.pend, e.2.1 < ph.st.nx

/-- Every operation that may be done in this phase has its value, and what looks at memory sees it now. -/
def PassOk (P : Program) (ops : List Oper) (anc wr : T Nat) (xm : Nat) (tm : T AV) (ph : Ph) (i : Nat) : Prop :=
  ∀ o, ops[i]? = some o → kindOf o.op ≠ .x → possible anc xm i ph = true → ∃ u, ph.vals.get i = some u ∧
    (heapOp o.op = true → (∃ b, wantedA ops (slotG wr anc tm ph.vals i) o = some b) ∧ (wantedA ops (slotG wr anc tm ph.vals i) o = some true → ∃ vals' pend', Vle vals' ph.vals ∧ (∀ e ∈ pend', e ∈ ph.pend) ∧ Apart pend' ∧
      evQ P (envG wr anc tm vals' i) (viewP (an anc i).testBit pend' ph.st.h) o = some u))

/-- How a pass changes a phase. -/
structure PhLe (ph ph' : Ph) : Prop where
  vals : Vle ph.vals ph'.vals
  heap : ph'.st.h = ph.st.h
  nx : ph.st.nx ≤ ph'.st.nx
  pend : ∀ e ∈ ph.pend, e ∈ ph'.pend
  newp : ∀ e ∈ ph'.pend, e ∈ ph.pend ∨ (ph.st.nx ≤ e.2.1 ∧ ph.vals.get e.1 = none)
  done : ph'.done = ph.done
  gone : ph'.gone = ph.gone
theorem PhLe.refl (ph : Ph) : PhLe ph ph := ⟨Vle.refl _, rfl, Nat.le_refl _, fun _ h => h, fun _ h => .inl h, rfl, rfl⟩
theorem PhLe.trans {a b c : Ph} (h : PhLe a b) (k : PhLe b c) : PhLe a c := by
  refine ⟨h.vals.trans k.vals, k.heap.trans h.heap, Nat.le_trans h.nx k.nx, fun e he => k.pend e (h.pend e he), fun e he => ?_, k.done.trans h.done, k.gone.trans h.gone⟩
  rcases k.newp e he with h1 | h1
  · exact h.newp e h1
  · refine .inr ⟨Nat.le_trans h.nx h1.1, ?_⟩
    cases hg : a.vals.get e.1 with
    | none => rfl
    | some v => have := h.vals _ _ hg; rw [h1.2] at this; cases this

theorem PassOk.mono {ph ph' : Ph} (hle : PhLe ph ph') {i : Nat} (h : PassOk P ops anc wr xm tm ph i) : PassOk P ops anc wr xm tm ph' i := by
  intro o ho hk hp
  have hp' : possible anc xm i ph = true := by
    unfold possible at hp ⊢; rw [hle.done, hle.gone] at hp; exact hp
  obtain ⟨u, h1, h2⟩ := h o ho hk hp'
  refine ⟨u, hle.vals _ _ h1, fun hh => ?_⟩
  obtain ⟨⟨b, hb⟩, h3⟩ := h2 hh
  have mono : ∀ c, wantedA ops (slotG wr anc tm ph.vals i) o = some c → wantedA ops (slotG wr anc tm ph'.vals i) o = some c := fun c hc => wantedA_mono (fun d v hd => slotG_mono hle.vals hd) hc
  refine ⟨⟨b, mono b hb⟩, fun ht => ?_⟩
  have hbt : b = true := by have := (mono b hb).symm.trans ht; simpa using this
  subst hbt
  obtain ⟨vals', pend', g1, g2, g3, g4⟩ := h3 hb
  exact ⟨vals', pend', g1.trans hle.vals, fun e he => hle.pend e (g2 e he), g3, by rw [hle.heap]; exact g4⟩

theorem heapOp_q' {op : Op} (h : heapOp op = true) (hk : kindOf op ≠ .x) : kindOf op = .q := by
  cases op with
  | call c =>
    have : kindOf (.call c) = .q ∨ kindOf (.call c) = .x := by
      simp only [kindOf]
      split <;> simp
    exact this.resolve_right hk
  | load => rfl
  | lookup => rfl
  | slice => rfl
  | _ => cases h
theorem heapOp_q {o : Oper} (h : heapOp o.op = true) (hk : kindOf o.op ≠ .x) : kindOf o.op = .q := heapOp_q' h hk

theorem oneG_ok {i : Nat} {o : Oper} (ho : ops[i]? = some o) (hk : kindOf o.op ≠ .x) {ph ph' : Ph} (hok : PhOk P ops anc wr tm ph) (e : oneG P ops anc wr tm i o ph = some ph') :
    PhLe ph ph' ∧ PhOk P ops anc wr tm ph' ∧ PassOk P ops anc wr xm tm ph' i := by
  unfold oneG at e
  split at e
  · -- the value is there
    rename_i u hu
    cases hh : heapOp o.op with
    | false =>
      rw [hh] at e; simp only [cond_false, Option.some.injEq] at e; subst e
      refine ⟨PhLe.refl _, hok, fun o' ho' _ _ => ?_⟩
      rw [ho] at ho'; cases ho'
      exact ⟨u, hu, fun h => by rw [hh] at h; cases h⟩
    | true =>
      rw [hh] at e; simp only [cond_true] at e
      split at e
      · cases e
      · rename_i hw
        simp only [Option.some.injEq] at e; subst e
        refine ⟨PhLe.refl _, hok, fun o' ho' _ _ => ?_⟩
        rw [ho] at ho'; cases ho'
        exact ⟨u, hu, fun _ => ⟨⟨_, hw⟩, fun h => by rw [hw] at h; cases h⟩⟩
      · rename_i hw
        split at e
        case h_2 => cases e
        rename_i v hv
        cases hs : v.same u with
        | false => rw [hs] at e; cases e
        | true =>
          rw [hs] at e; simp only [cond_true, Option.some.injEq] at e; subst e
          have := same_eq _ _ hs
          subst this
          refine ⟨PhLe.refl _, hok, fun o' ho' _ _ => ?_⟩
          rw [ho] at ho'; cases ho'
          exact ⟨v, hu, fun _ => ⟨⟨_, hw⟩, fun _ => ⟨ph.vals, ph.pend, Vle.refl _, fun _ h => h, hok.apart, hv⟩⟩⟩
  · rename_i hu
    have hput := fun v => Vle.put (a := ph.vals) hu v
    -- a new value, no new object
    have fin : ∀ u : AV, ((wantedA ops (slotG wr anc tm ph.vals i) o = some false ∧ u = .sc undef) ∨ (wantedA ops (slotG wr anc tm ph.vals i) o = some true ∧ kindOf o.op = .q ∧ evQ P (envG wr anc tm ph.vals i) (viewP (an anc i).testBit ph.pend ph.st.h) o = some u)) →
        PhLe ph { ph with vals := ph.vals.put i u } ∧ PhOk P ops anc wr tm { ph with vals := ph.vals.put i u } ∧ PassOk P ops anc wr xm tm { ph with vals := ph.vals.put i u } i := by
      intro u hcase
      refine ⟨⟨hput u, rfl, Nat.le_refl _, fun _ h => h, fun _ h => .inl h, rfl, rfl⟩, ⟨fun j v o' ho' hk' hv => ?_, fun e he => ?_, hok.apart, hok.lt⟩, fun o' ho' _ _ => ?_⟩
      · by_cases hj : j = i
        · subst hj
          rw [ho] at ho'; cases ho'
          simp only [T.get_put_same, Option.some.injEq] at hv; subst hv
          rcases hcase with h | ⟨h1, h2, h3⟩
          · exact ⟨ph.vals, hput u, .inl h⟩
          · exact ⟨ph.vals, hput u, .inr ⟨h1, .inl ⟨h2, _, h3⟩⟩⟩
        · simp only [T.get_put_ne _ _ _ hj] at hv
          obtain ⟨vals', g1, g2⟩ := hok.vals j v o' ho' hk' hv
          exact ⟨vals', g1.trans (hput u), g2⟩
      · obtain ⟨o', vals', u', g1, g2, g3, g4, g5, g6⟩ := hok.pend e he
        exact ⟨o', vals', u', g1, g2, g3.trans (hput u), g4, g5, hput u _ _ g6⟩
      · rw [ho] at ho'; cases ho'
        refine ⟨u, T.get_put_same _ _ _, fun _ => ?_⟩
        have mono : ∀ c, wantedA ops (slotG wr anc tm ph.vals i) o = some c → wantedA ops (slotG wr anc tm (ph.vals.put i u) i) o = some c := fun c hc => wantedA_mono (fun d v hd => slotG_mono (hput u) hd) hc
        rcases hcase with ⟨h1, h2⟩ | ⟨h1, h2, h3⟩
        · exact ⟨⟨_, mono _ h1⟩, fun ht => by have := (mono _ h1).symm.trans ht; simp at this⟩
        · exact ⟨⟨_, mono _ h1⟩, fun _ => ⟨ph.vals, ph.pend, hput u, fun _ h => h, hok.apart, h3⟩⟩
    split at e
    · cases e
    · rename_i hw
      simp only [Option.some.injEq] at e; subst e
      exact fin _ (.inl ⟨hw, rfl⟩)
    · rename_i hw
      split at e
      · rename_i hkq
        split at e
        case h_2 => cases e
        rename_i v hv
        simp only [Option.some.injEq] at e; subst e
        exact fin _ (.inr ⟨hw, hkq, hv⟩)
      · rename_i hkf
        split at e
        case h_2 => cases e
        rename_i v ao hv
        simp only [Option.some.injEq] at e; subst e
        refine ⟨⟨hput v, rfl, Nat.le_succ _, fun e he => List.mem_append_left _ he, fun e he => ?_, rfl, rfl⟩, ⟨fun j u o' ho' hk' hu' => ?_, fun e he => ?_, ?_, fun e he => ?_⟩, fun o' ho' _ _ => ?_⟩
        · rcases List.mem_append.1 he with h | h
          · exact .inl h
          · simp only [List.mem_singleton] at h; subst h; exact .inr ⟨Nat.le_refl _, hu⟩
        · by_cases hj : j = i
          · subst hj
            rw [ho] at ho'; cases ho'
            simp only [T.get_put_same, Option.some.injEq] at hu'; subst hu'
            exact ⟨ph.vals, hput v, .inr ⟨hw, .inr ⟨hkf, _, _, hv, fun _ => List.mem_append_right _ (by simp)⟩⟩⟩
          · simp only [T.get_put_ne _ _ _ hj] at hu'
            obtain ⟨vals', g1, g2⟩ := hok.vals j u o' ho' hk' hu'
            refine ⟨vals', g1.trans (hput v), ?_⟩
            rcases g2 with g | ⟨g, g' | ⟨g', id, ao', g3, g4⟩⟩
            · exact .inl g
            · exact .inr ⟨g, .inl g'⟩
            · exact .inr ⟨g, .inr ⟨g', id, ao', g3, fun hg => List.mem_append_left _ (g4 hg)⟩⟩
        · rcases List.mem_append.1 he with h | h
          · obtain ⟨o', vals', u', g1, g2, g3, g4, g5, g6⟩ := hok.pend e h
            exact ⟨o', vals', u', g1, g2, g3.trans (hput v), g4, g5, hput v _ _ g6⟩
          · simp only [List.mem_singleton] at h; subst h
            exact ⟨o, ph.vals, v, ho, hkf, hput v, hw, hv, T.get_put_same _ _ _⟩
        · refine List.pairwise_append.2 ⟨hok.apart, List.pairwise_singleton _ _, fun p hp q hq => ?_⟩
          simp only [List.mem_singleton] at hq; subst hq
          refine ⟨?_, Nat.ne_of_lt (hok.lt p hp)⟩
          rintro hpi
          obtain ⟨_, _, _, _, _, _, _, _, g⟩ := hok.pend p hp
          rw [hpi, hu] at g; cases g
        · rcases List.mem_append.1 he with h | h
          · exact Nat.lt_succ_of_lt (hok.lt e h)
          · simp only [List.mem_singleton] at h; subst h; exact Nat.lt_succ_self _
        · rw [ho] at ho'; cases ho'
          refine ⟨v, T.get_put_same _ _ _, fun hh => ?_⟩
          have := heapOp_q hh hk
          rw [hkf] at this; cases this
      · cases e

theorem passG_ok : ∀ (os : List Oper) (i : Nat), ops.drop i = os → ∀ {ph ph' : Ph}, PhOk P ops anc wr tm ph → (∀ j, j < i → PassOk P ops anc wr xm tm ph j) → passG P ops anc wr xm tm os i ph = some ph' →
    PhLe ph ph' ∧ PhOk P ops anc wr tm ph' ∧ ∀ j, PassOk P ops anc wr xm tm ph' j
  | [], i, hd, ph, ph', hok, hp, e => by
    simp only [passG, Option.some.injEq] at e; subst e
    refine ⟨PhLe.refl _, hok, fun j => ?_⟩
    by_cases hj : j < i
    · exact hp j hj
    · intro o ho
      have : ops.length ≤ i := by
        rcases Nat.lt_or_ge i ops.length with h | h
        · rw [List.drop_eq_getElem_cons h] at hd; cases hd
        · exact h
      rw [List.getElem?_eq_none (by omega)] at ho; cases ho
  | o :: os, i, hd, ph, ph', hok, hp, e => by
    have hlt : i < ops.length := by
      rcases Nat.lt_or_ge i ops.length with h | h
      · exact h
      · rw [List.drop_eq_nil_of_le h] at hd; cases hd
    have ho : ops[i]? = some o := by
      rw [List.drop_eq_getElem_cons hlt] at hd
      rw [List.getElem?_eq_getElem hlt, (List.cons.inj hd).1]
    have hd' : ops.drop (i + 1) = os := by
      rw [List.drop_eq_getElem_cons hlt] at hd
      exact (List.cons.inj hd).2
    simp only [passG] at e
    have next : ∀ ph1, PhLe ph ph1 → PhOk P ops anc wr tm ph1 → PassOk P ops anc wr xm tm ph1 i → passG P ops anc wr xm tm os (i + 1) ph1 = some ph' →
        PhLe ph ph' ∧ PhOk P ops anc wr tm ph' ∧ ∀ j, PassOk P ops anc wr xm tm ph' j := by
      intro ph1 hle hok1 hpi e1
      obtain ⟨a, b, c⟩ := passG_ok os (i + 1) hd' hok1 (fun j hj => by
        by_cases hji : j = i
        · subst hji; exact hpi
        · exact (hp j (by omega)).mono hle) e1
      exact ⟨hle.trans a, b, c⟩
    split at e
    · rename_i hk
      exact next ph (PhLe.refl _) hok (fun o' ho' hk' => by rw [ho] at ho'; cases ho'; exact absurd hk hk') e
    · rename_i hk
      cases hpos : possible anc xm i ph with
      | false =>
        rw [hpos] at e; simp only [cond_false] at e
        exact next ph (PhLe.refl _) hok (fun o' _ _ hp' => by rw [hpos] at hp'; cases hp') e
      | true =>
        rw [hpos] at e; simp only [cond_true] at e
        split at e
        case h_2 => cases e
        rename_i ph1 h1
        obtain ⟨a, b, c⟩ := oneG_ok (xm := xm) ho (fun h => hk h) hok h1
        exact next ph1 a b c e
end
end Go.Proofs.Ythlcnklbeolhpaa.Ev
