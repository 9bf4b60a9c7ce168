import Derived.Test.YtfkfejonlfcgoaaEvQ4
import Derived.IntWalk
namespace Go.Proofs.Ytfkfejonlfcgoaa.Ev
open Go Go.RowKit
section
variable {P : Program} {ρ : Rho} {ev : Operand → Option AV} {f : Operand → Value} {st : St} {w : World}

theorem at_upd0 {i : Nat} {b e : Nat} : At (upd ρ i (b, 0, e)) i 0 ⟨b, 0, none⟩ := ⟨b, 0, e, upd_same _ _ _, rfl, rfl, by simp⟩
theorem room_upd {i : Nat} {b e e' : Nat} (h : e' ≤ e) : Room (upd ρ i (b, 0, e)) i e' := ⟨b, 0, e, upd_same _ _ _, h⟩

theorem fill_size {place : Nat → Option (Nat × Nat)} : ∀ {ps : List (Nat × Value)} {cs zs : Array Value}, Instr.fill place cs ps = some zs → zs.size = cs.size
  | [], cs, zs, h => by simp only [Instr.fill, Option.some.injEq] at h; rw [h]
  | (i, v) :: ps, cs, zs, h => by
    simp only [Instr.fill] at h
    split at h
    · cases h
    · split at h
      · cases h
      · rename_i off size _ _
        have hk : ∀ (l : List (Value × Nat)) (c : Array Value), (l.foldl (fun cs (x : Value × Nat) => match x with | (c, j) => cs.setIfInBounds (off + j) c) c).size = c.size := by
          intro l
          induction l with
          | nil => intro c; rfl
          | cons a l ih => intro c; rw [List.foldl_cons, ih]; simp
        rw [fill_size h, ← Array.foldl_toList, hk]

theorem info_size {t : TypeId} {info : TypeInfo} (h : semP P (typeInfo t) = some info) (w : World) : (sizeOf t).run P w = .ok info.size w := by
  unfold sizeOf
  rw [Sem.run_bind, semP_run _ _ h w]; rfl

/-- The operations that make one object. -/
theorem evF_sound (H : RelH ρ st w) (E : EvOk ρ ev f) {o : Oper} {i n' : Nat} (hnone : ρ i = none) (hin : i < n') (hnn : st.nx ≤ n') {v : AV} {ao : AO} (e : evF P ev i o = some (v, ao)) :
    ∃ y w' p, (execOp f o).run P w = .ok (.value y) w' ∧ RelV (upd ρ i p) v y ∧ RelH (upd ρ i p) ⟨st.h.put i ao, n'⟩ w' ∧ w.heap.size ≤ p.1 ∧ Below w.heap.size w w' ∧ (∀ c, ao.cls? = some c → c = i) := by
  unfold evF at e
  split at e
  · rename_i t ho
    split at e
    case h_2 => cases e
    rename_i z hz
    split at e
    case h_2 => cases e
    rename_i ao' hao
    cases e
    refine ⟨.pointer (some ⟨w.heap.size, 0, none⟩), w.alloc (.cells (z.cells.toList ++ []).toArray t), (w.heap.size, 0, (z.cells.toList ++ []).length), ?_, relV_ptr.2 ⟨_, at_upd0, rfl⟩, H.row hnone hin hnn hao (RelL.scs _) [] t, Nat.le_refl _, (Below.refl _ _).alloc (Nat.le_refl _) _, rowOf_cls hao⟩
    unfold execOp; rw [ho]
    refine run_v ?_
    unfold Instr.alloc
    rw [Sem.run_bind, semP_run _ _ hz w]
    simp [newVar, newRow]
  · rename_i t x ho
    split at e
    case h_2 => cases e
    rename_i u hu
    split at e
    case h_2 => cases e
    rename_i ao' hao
    cases e
    refine ⟨.pointer (some ⟨w.heap.size, 0, none⟩), w.alloc (.cells ((f x).cells.toList ++ []).toArray t), (w.heap.size, 0, ((f x).cells.toList ++ []).length), ?_, relV_ptr.2 ⟨_, at_upd0, rfl⟩, H.row hnone hin hnn hao (E x u hu).cells [] t, Nat.le_refl _, (Below.refl _ _).alloc (Nat.le_refl _) _, rowOf_cls hao⟩
    unfold execOp; rw [ho]
    refine run_v ?_
    unfold Instr.box
    simp [newVar, newRow]
  · rename_i t n ps ho
    split at e
    case h_2 => cases e
    rename_i vs el hvs hd
    split at e
    case h_2 => cases e
    rename_i size z hs hz
    cases hb : (n * size).ble 4096 with
    | false => rw [hb] at e; cases e
    | true =>
      rw [hb] at e; simp only [cond_true] at e
      split at e
      case h_2 => cases e
      rename_i cs hcs
      split at e
      case h_2 => cases e
      rename_i ao' hao
      cases e
      have hle := Nat.le_of_ble_eq_true hb
      have hP : RelP ρ vs (ps.map fun (i, x) => (i, f x)).toList := by simpa using evPs_sound E hvs
      obtain ⟨zs, g1, g2⟩ := fillA_sound hP (RelL.scs _) hcs
      have hzl : zs.size = n * size := by rw [fill_size g1]; simp
      refine ⟨.slice (some ⟨w.heap.size, 0, none⟩) n n, w.alloc (.cells (zs.toList ++ []).toArray el), (w.heap.size, 0, (zs.toList ++ []).length), ?_, relV_sl.2 ⟨_, n, fun _ => ⟨at_upd0, room_upd (by simp [hzl])⟩, Nat.le_refl _, fun q hq => by cases hq; rfl, rfl⟩, H.row hnone hin hnn hao g2 [] el, Nat.le_refl _, (Below.refl _ _).alloc (Nat.le_refl _) _, rowOf_cls hao⟩
      unfold execOp; rw [ho]
      refine run_v ?_
      unfold Instr.buildSlice
      rw [Sem.run_bind, run_under hd]; simp only [Result.andThen_ok]
      rw [Sem.run_bind, semP_run _ _ hs w]; simp only [Result.andThen_ok]
      rw [if_neg (by omega)]
      by_cases h0 : n * size = 0
      · have e0 : ∀ (zz : Array Value), ((Array.range (n * size)).map (zz[· % zz.size]!)) = #[] := by intro zz; rw [h0]; simp
        rw [e0] at g1
        simp only [e0, if_pos h0, Sem.run_bind, Sem.run_pure, pure_bind, g1]
        simp [newRow]
      · simp only [if_neg h0, Sem.run_bind, semP_run _ _ hz w, Result.andThen_ok, bind_pure_comp, Sem.run_map, pure_bind, g1]
        simp [newRow]
  · rename_i t r ho
    split at e
    case h_2 => cases e
    cases e
    refine ⟨.map (some w.heap.size), w.alloc (.map #[] 0), (w.heap.size, 0, 0), ?_, relV_mp.2 ⟨_, upd_same _ _ _, rfl⟩, ?_, Nat.le_refl _, (Below.refl _ _).alloc (Nat.le_refl _) _, fun c hc => by cases hc⟩
    · unfold execOp; rw [ho]
      refine run_v ?_
      simp [Instr.makeMap]
    · refine H.new hnone hin hnn ((Below.refl _ _).alloc (Nat.le_refl _) _) (Nat.le_refl _) (by simp) ⟨w.heap.size, upd_same _ _ _, #[], by show (w.heap.push _)[w.heap.size]? = _; simp, rfl⟩ (fun _ _ _ _ _ h => by cases h)
  · rename_i t l c ho
    split at e
    case h_2 => cases e
    rename_i k1 l k2 c el hl hc hd
    split at e
    case h_2 => cases e
    rename_i size z info hs hz hi
    cases hb : (l.ble c && c.ble 65536 && (info.bytes).ble 65536 && (1).ble (c * size)) with
    | false => rw [hb] at e; cases e
    | true =>
      rw [hb] at e; simp only [cond_true] at e
      split at e
      case h_2 => cases e
      rename_i ao' hao
      cases e
      simp only [Bool.and_eq_true, Nat.ble_eq] at hb
      obtain ⟨⟨⟨b1, b2⟩, b3⟩, b4⟩ := hb
      refine ⟨.slice (some ⟨w.heap.size, 0, none⟩) l c, w.alloc (.cells (((Array.range (c * size)).map (z.cells[· % z.cells.size]!)).toList ++ []).toArray el), (w.heap.size, 0, (((Array.range (c * size)).map (z.cells[· % z.cells.size]!)).toList ++ []).length), ?_, relV_sl.2 ⟨_, c, fun _ => ⟨at_upd0, room_upd (by simp)⟩, b1, fun q hq => by cases hq; rfl, rfl⟩, H.row hnone hin hnn hao (RelL.scs _) [] el, Nat.le_refl _, (Below.refl _ _).alloc (Nat.le_refl _) _, rowOf_cls hao⟩
      unfold execOp; rw [ho]
      refine run_v ?_
      have el1 := relV_sc.1 (E _ _ hl)
      have ec1 := relV_sc.1 (E _ _ hc)
      rw [el1, ec1]
      unfold Instr.makeSlice
      rw [Sem.run_bind, run_under hd]; simp only [Result.andThen_ok]
      have wl : IntKind.i64.wrap (Int.ofNat l) = l := IntWalk.i64_in _ (by simp; omega)
      have wc : IntKind.i64.wrap (Int.ofNat c) = c := IntWalk.i64_in _ (by simp; omega)
      have hmul : info.bytes * c ≤ 4294967296 := Nat.le_trans (Nat.mul_le_mul b3 b2) (by decide)
      simp only [asInt, asIntOf, Sem.run_bind, Result.andThen_ok, pure_bind, semP_run _ _ hi w, wl, wc]
      have p48 : (2 : Int) ^ 48 = 281474976710656 := rfl
      have d1 : decide ((c : Int) < 0) = false := decide_eq_false (by omega)
      have d2 : decide ((info.bytes : Int) * (c : Int) > 2 ^ 48) = false := decide_eq_false (by rw [p48, ← Int.natCast_mul]; generalize info.bytes * c = q at hmul ⊢; omega)
      have d3 : decide ((l : Int) < 0) = false := decide_eq_false (by omega)
      have d4 : decide ((l : Int) > (c : Int)) = false := decide_eq_false (by omega)
      simp only [d1, d2, d3, d4, Bool.or_false, Bool.false_eq_true, if_false, Int.toNat_natCast]
      rw [Sem.run_bind, run_askRoom]; simp only [Result.andThen_ok]
      rw [Sem.run_bind, semP_run _ _ hs w]; simp only [Result.andThen_ok]
      rw [if_neg (by omega)]
      rw [Sem.run_bind, semP_run _ _ hz w]; simp only [Result.andThen_ok]
      simp only [newRow, Sem.run_bind, run_newObj, Result.andThen_ok, Sem.run_pure, Array.toList_map, List.append_nil, World.alloc_eq]
      congr 2; congr 1; apply Array.toList_inj.1; simp
  · cases e
end
end Go.Proofs.Ytfkfejonlfcgoaa.Ev
