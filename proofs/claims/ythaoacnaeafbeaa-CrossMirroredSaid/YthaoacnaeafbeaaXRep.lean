/- Package tuscheref11: the walk of repeated. -/
import Derived.Test.YthaoacnaeafbeaaXPQ
import Derived.Test.YthaoacnaeafbeaaXTw2
namespace Go.Proofs.Ythaoacnaeafbeaa
open Go.RowKit

/-- No number of a pair before a comes again. -/
def X.Ns (D : Nat × Nat → Nat) (ps : List (Nat × Nat)) (a : Nat) : Prop := ∀ i k, i < a → k < ps.length → k ≠ i → D (ps.getD k (0, 0)) ≠ D (ps.getD i (0, 0))
theorem X.tw_drop {D : Nat × Nat → Nat} {ps : List (Nat × Nat)} : ∀ {a : Nat}, X.Ns D ps a → a ≤ ps.length → X.tw D ps = X.tw D (ps.drop a)
  | 0, _, _ => rfl
  | a + 1, h, ha => by
    rw [X.tw_drop (a := a) (fun i k h1 h2 h3 => h i k (by omega) h2 h3) (by omega), List.drop_eq_getElem_cons (show a < ps.length by omega)]
    have hn : (ps.drop (a + 1)).find? (fun q => D q == D ps[a]) = none := by
      rw [List.find?_eq_none]
      intro q hq
      obtain ⟨j, hj, rfl⟩ := List.getElem_of_mem hq
      rw [List.length_drop] at hj
      rw [List.getElem_drop]
      have := h a (a + 1 + j) (by omega) (by omega) (by omega)
      rw [List.getD_eq_getElem?_getD, List.getD_eq_getElem?_getD, List.getElem?_eq_getElem (show a + 1 + j < ps.length by omega), List.getElem?_eq_getElem (show a < ps.length by omega)] at this
      simpa using this
    conv => lhs; unfold X.tw
    rw [hn]
theorem X.tw_none {D : Nat × Nat → Nat} {ps : List (Nat × Nat)} (h : X.Ns D ps ps.length) : X.tw D ps = none := by
  rw [X.tw_drop h (Nat.le_refl _), List.drop_length]; rfl
theorem X.tw_at {D : Nat × Nat → Nat} {ps : List (Nat × Nat)} {a b : Nat} (h : X.Ns D ps a) (ha : a < ps.length) (hb : b < ps.length) (hab : a ≠ b) (he : D (ps.getD a (0, 0)) = D (ps.getD b (0, 0)))
    (hf : ∀ k, k < b → a ≠ k → D (ps.getD a (0, 0)) ≠ D (ps.getD k (0, 0))) : X.tw D ps = some (ps.getD a (0, 0), ps.getD b (0, 0)) := by
  have hlt : a < b := by
    rcases Nat.lt_or_gt_of_ne hab with h1 | h1
    · exact h1
    · exact absurd he (h b a h1 ha (by omega))
  have ea : ps.getD a (0, 0) = ps[a] := by rw [List.getD_eq_getElem?_getD, List.getElem?_eq_getElem ha]; rfl
  have eb : ps.getD b (0, 0) = ps[b] := by rw [List.getD_eq_getElem?_getD, List.getElem?_eq_getElem hb]; rfl
  rw [X.tw_drop h (by omega), List.drop_eq_getElem_cons ha]
  have hn : (ps.drop (a + 1)).find? (fun q => D q == D ps[a]) = some ps[b] := by
    rw [List.find?_eq_some_iff_getElem]
    refine ⟨by rw [← ea, ← eb, he]; simp, b - (a + 1), by rw [List.length_drop]; omega, ?_, fun j hj => ?_⟩
    · rw [List.getElem_drop]
      congr 1; omega
    · rw [List.getElem_drop]
      have := hf (a + 1 + j) (by omega) (by omega)
      rw [ea, List.getD_eq_getElem?_getD, List.getElem?_eq_getElem (show a + 1 + j < ps.length by omega)] at this
      simp only [Option.getD_some] at this
      simp only [Bool.not_eq_true', beq_eq_false_iff_ne]
      exact fun e => this e.symm
  conv => lhs; unfold X.tw
  rw [hn, ea, eb]

theorem X.ds_at {D : Nat × Nat → Nat} {ps : List (Nat × Nat)} {w : World} {a : Option Addr} (h : RdI w a (X.ds D ps)) {i : Nat} (hi : i < ps.length) : ∃ b off, a = some ⟨b, off, none⟩ ∧ w.cell? ⟨b, off + i, none⟩ = some (.int .i64 (D (ps.getD i (0, 0)) : Nat)) := by
  obtain ⟨b, off, h1, h2⟩ := X.num h (show i < (X.ds D ps).length by unfold X.ds; simpa using hi)
  refine ⟨b, off, h1, ?_⟩
  rw [h2]
  unfold X.ds
  simp [List.getD, hi]
theorem X.RdQ.at {w : World} {a : Option Addr} {ps : List (Nat × Nat)} (h : X.RdQ w a ps) {i : Nat} (hi : i < ps.length) : ∃ b off, a = some ⟨b, off, none⟩ ∧ w.cell? ⟨b, off + i * 2, none⟩ = some (.int .i64 ((ps.getD i (0, 0)).1 : Nat)) ∧ w.cell? ⟨b, off + i * 2 + 1, none⟩ = some (.int .i64 ((ps.getD i (0, 0)).2 : Nat)) := by
  obtain ⟨b, off, h1, h2, h3⟩ := h i hi
  have e : ps.getD i (0, 0) = ps[i] := by rw [List.getD_eq_getElem?_getD, List.getElem?_eq_getElem hi]; rfl
  rw [e]
  exact ⟨b, off, h1, h2, h3⟩

/-- Four cells that stay. -/
abbrev X.C4 (a b c d : Addr) (x y z t : Value) (W : World) : Prop := W.cell? a = some x ∧ W.cell? b = some y ∧ W.cell? c = some z ∧ W.cell? d = some t
theorem X.C4.drew {a b c d : Addr} {x y z t : Value} {W : World} (h : X.C4 a b c d x y z t W) : X.C4 a b c d x y z t W.drew := h
theorem X.C4.off {B : Nat} {i j k l : Nat} {x y z t : Value} {W : World} (h : X.C4 ⟨B, i, none⟩ ⟨B, j, none⟩ ⟨B, k, none⟩ ⟨B, l, none⟩ x y z t W) {g g' : Nat} (h1 : B ≠ g) (h2 : B ≠ g') {m n : Nat} {u v : Value} : X.C4 ⟨B, i, none⟩ ⟨B, j, none⟩ ⟨B, k, none⟩ ⟨B, l, none⟩ x y z t ((W.setCell ⟨g, m, none⟩ u).setCell ⟨g', n, none⟩ v) := by
  have e : ∀ o, ((W.setCell ⟨g, m, none⟩ u).setCell ⟨g', n, none⟩ v).cell? ⟨B, o, none⟩ = W.cell? ⟨B, o, none⟩ := fun o => by
    rw [World.cell?_setCell_far _ _ _ _ (fun e => h2 e.symm), World.cell?_setCell_far _ _ _ _ (fun e => h1 e.symm)]
  exact ⟨(e _).trans h.1, (e _).trans h.2.1, (e _).trans h.2.2.1, (e _).trans h.2.2.2⟩

set_option maxHeartbeats 8000000 in
set_option maxRecDepth 100000 in
theorem repeated_any (x y : Option Addr) (cx cy : Nat) (D : Nat × Nat → Nat) (ps : List (Nat × Nat)) (w : World) (hlen : ps.length ≤ 1000) (hx : X.RdQ w x ps) (hy : RdI w y (X.ds D ps)) :
    Calls Try.prog 48 #[.slice x ps.length cx, .slice y (X.ds D ps).length cy] w fun e w' => e = .returned (.tuple #[X.pv (X.o1 (X.tw D ps)), X.pv (X.o2 (X.tw D ps)), .bool (X.tw D ps).isSome]) ∧ Below w.heap.size w w' := by
  obtain ⟨W, hW, hT, hB, hsz⟩ := X.newTwo w
  have HT := hid hT
  have HB := hid hB
  have HX := hid (hx.stays hB)
  have HY := hid (hy.stays hB)
  have hHBX : ∀ b o k v, x = some ⟨b, o, none⟩ → w.cell? ⟨b, o + k, none⟩ = some v → b ≠ w.heap.size ∧ b ≠ w.heap.size + 1 := fun b o k v _ h => by
    have := World.block_lt_of_cell? _ _ h
    have : b < w.heap.size := this
    omega
  have HXW := hid (fun i (hi : i < ps.length) => hx.at hi)
  have hdl : (X.ds D ps).length = ps.length := by unfold X.ds; simp
  rw [hdl]
  clear hx hy hT hB hdl
  go_enter Try.func48, Try.ntmps48
  go_wp2_with fail
  try rw [hW]
  clear hW
  go_loopw [7] (fun s wr => ∃ a : Nat, a ≤ ps.length ∧ s = .int .i64 a ∧ X.Ns D ps a ∧ ∃ q, wr = W.drewN q) (fun s _ => ps.length - (intOf s).toNat)
  case atStart => exact ⟨0, Nat.zero_le _, rfl, fun i k h => absurd h (Nat.not_lt_zero _), 0, rfl⟩
  case round => as_aux_lemma =>
    obtain ⟨a, ha, rfl, hn, q, rfl⟩ := hrel
    have HN := hid hn
    clear hn
    by_cases hlt : a < ps.length
    · go_wp2_with fail
      go_loopw [8] (fun s wr => ∃ b : Nat, b ≤ ps.length ∧ s = .int .i64 b ∧ (∀ k, k < b → a ≠ k → D (ps.getD a (0, 0)) ≠ D (ps.getD k (0, 0))) ∧ ∃ q, wr = W.drewN q) (fun s _ => ps.length - (intOf s).toNat)
      case atStart => exact ⟨0, Nat.zero_le _, rfl, fun k h => absurd h (Nat.not_lt_zero _), q, rfl⟩
      case round => as_aux_lemma =>
        obtain ⟨b, hb, rfl, hf, q, rfl⟩ := hrel
        have HF := hid hf
        clear hf
        by_cases hbl : b < ps.length
        · by_cases hab : a = b
          · subst hab
            have hnn : ((a : Int) != (a : Int)) = false := by simp
            go_wp2
            go_quiet (fail)
            go_wp2
            go_roundw
            case rel => exact ⟨a + 1, by omega, by go_num, fun k hk h1 => HF.out k (by omega) h1, _, rfl⟩
            case measure => simp [intOf]; omega
          · have hnn : ((a : Int) != (b : Int)) = true := by simp; omega
            obtain ⟨b1, o1, rfl, ya⟩ := X.ds_at HY.out hlt
            obtain ⟨b2, o2, he, yb⟩ := X.ds_at HY.out hbl
            simp only [Option.some.injEq, Addr.mk.injEq, and_true] at he
            obtain ⟨rfl, rfl⟩ := he
            have haa : (0 : Int) ≤ (a : Int) ∧ (a : Int) < (ps.length : Int) := by omega
            have hbb : (0 : Int) ≤ (b : Int) ∧ (b : Int) < (ps.length : Int) := by omega
            by_cases hd : D (ps.getD a (0, 0)) = D (ps.getD b (0, 0))
            · have HTW := hid (X.tw_at HN.out hlt hbl hab hd HF.out)
              have HBX0 := HXW.out a hlt
              obtain ⟨b3, o3, rfl, pa0, pa1⟩ := HX.out.at hlt
              obtain ⟨b5, o5, he5, pw0, _⟩ := HBX0
              simp only [Option.some.injEq, Addr.mk.injEq, and_true] at he5
              obtain ⟨rfl, rfl⟩ := he5
              have HBX := hHBX _ _ _ _ rfl pw0
              clear pw0
              obtain ⟨b4, o4, he, pb0, pb1⟩ := HX.out.at hbl
              simp only [Option.some.injEq, Addr.mk.injEq, and_true] at he
              obtain ⟨rfl, rfl⟩ := he
              rw [hd] at ya
              generalize D (ps.getD b (0, 0)) = d at *
              generalize ps.getD a (0, 0) = p at *
              generalize ps.getD b (0, 0) = r at *
              obtain ⟨p1, p2⟩ := p
              obtain ⟨r1, r2⟩ := r
              have heq : ((d : Int) == (d : Int)) = true := by simp
              go_wp2
              go_quiet (fail)
              go_wp2_with fail
              obtain ⟨W6, hw6⟩ : ∃ W6, (W.drewN q).drewN nq = W6 := ⟨_, rfl⟩
              have HT6 : Hid (X.Two w.heap.size (w.heap.size + 1) none W6) := hid (by rw [← hw6]; exact HT.out)
              have HB6 : Hid (Below w.heap.size w W6) := hid (by rw [← hw6]; exact below_drewN (below_drewN HB.out _) _)
              have HC6 : Hid (X.C4 ⟨b3, o3 + a * 2, none⟩ ⟨b3, o3 + a * 2 + 1, none⟩ ⟨b3, o3 + b * 2, none⟩ ⟨b3, o3 + b * 2 + 1, none⟩ (.int .i64 (p1 : Nat)) (.int .i64 (p2 : Nat)) (.int .i64 (r1 : Nat)) (.int .i64 (r2 : Nat)) W6) := hid (by rw [← hw6]; exact ⟨pa0, pa1, pb0, pb1⟩)
              try rw [hw6]
              clear hw6 pa0 pa1 pb0 pb1 ya yb
              have HBB : Hid (b3 ≠ w.heap.size ∧ b3 ≠ w.heap.size + 1) := hid HBX
              have b10 := HT6.out.1
              have b20 := HT6.out.2
              generalize X.o1 none = z1 at *
              generalize X.o2 none = z2 at *
              have g0 := b10.cell0
              have g1 := b10.cell1
              have g2 := b20.cell0
              have g3 := b20.cell1
              have f1 := b10.fz
              have f2 := b20.fz
              have n1 : ¬ w.heap.size = w.heap.size + 1 := by omega
              have n2 : ¬ w.heap.size + 1 = w.heap.size := by omega
              have H10 := hid b10
              have H20 := hid b20
              clear b10 b20
              go_region_held3 (fun W => X.C4 ⟨b3, o3 + a * 2, none⟩ ⟨b3, o3 + a * 2 + 1, none⟩ ⟨b3, o3 + b * 2, none⟩ ⟨b3, o3 + b * 2 + 1, none⟩ (.int .i64 (p1 : Nat)) (.int .i64 (p2 : Nat)) (.int .i64 (r1 : Nat)) (.int .i64 (r2 : Nat)) W) (first | with_reducible exact HC6.out.drew | with_reducible exact (HC6.out.off HBB.out.1 HBB.out.1).drew | with_reducible exact (HC6.out.off HBB.out.2 HBB.out.2).drew | with_reducible exact ((HC6.out.off HBB.out.1 HBB.out.1).off HBB.out.2 HBB.out.2).drew | with_reducible exact ((HC6.out.off HBB.out.2 HBB.out.2).off HBB.out.1 HBB.out.1).drew) (fail)
              all_goals (
                go_wp2
                try simp only [Exit.inBlock, Exit.then]
                refine bodyPost_ret (X.res3 rfl _ _ w.heap.size (w.heap.size + 1) (p1, p2) (r1, r2) _ rfl rfl rfl ?h1 ?h2) rfl ⟨?h3, ?h4⟩
                case h1 => first | exact ((H10.out.set (p1, p2)).off n1).off n1 | exact ((H10.out.off n1).off n1).set (p1, p2)
                case h2 => first | exact ((H20.out.off n2).off n2).set (r1, r2) | exact ((H20.out.set (r1, r2)).off n2).off n2
                case h3 => rw [HTW.out]; rfl
                case h4 => first | exact ((((HB6.out.setCell (p := ⟨w.heap.size, 0, none⟩) (Nat.le_refl _) _).setCell (p := ⟨w.heap.size, 1, none⟩) (Nat.le_refl _) _).setCell (p := ⟨w.heap.size + 1, 0, none⟩) (Nat.le_succ _) _).setCell (p := ⟨w.heap.size + 1, 1, none⟩) (Nat.le_succ _) _).drew | exact ((((HB6.out.setCell (p := ⟨w.heap.size + 1, 0, none⟩) (Nat.le_succ _) _).setCell (p := ⟨w.heap.size + 1, 1, none⟩) (Nat.le_succ _) _).setCell (p := ⟨w.heap.size, 0, none⟩) (Nat.le_refl _) _).setCell (p := ⟨w.heap.size, 1, none⟩) (Nat.le_refl _) _).drew)
            · have heq : ((D (ps.getD a (0, 0)) : Int) == (D (ps.getD b (0, 0)) : Int)) = false := beq_eq_false_iff_ne.2 (fun h => hd (Int.ofNat_inj.1 h))
              generalize hda : D (ps.getD a (0, 0)) = da at *
              generalize hdb : D (ps.getD b (0, 0)) = db at *
              have HF2 : Hid (∀ k, k < b + 1 → a ≠ k → da ≠ D (ps.getD k (0, 0))) := hid (fun k hk h1 => by
                by_cases e : k = b
                · rw [e, hdb]; exact hd
                · exact HF.out k (by omega) h1)
              clear hda hdb
              go_wp2
              go_quiet (fail)
              go_wp2
              go_roundw
              case rel => exact ⟨b + 1, by omega, by go_num, HF2.out, _, rfl⟩
              case measure => simp [intOf]; omega
        · have hbe : b = ps.length := by omega
          subst hbe
          have HN2 : Hid (X.Ns D ps (a + 1)) := hid (fun i k h1 h2 h3 => by
            by_cases e : i = a
            · rw [e]; exact fun h => HF.out k h2 (by omega) h.symm
            · exact HN.out i k (by omega) h2 h3)
          go_wp2
          go_roundw
          case rel => exact ⟨a + 1, by omega, by go_num, HN2.out, _, rfl⟩
          case measure => simp [intOf]; omega
    · have hae : a = ps.length := by omega
      subst hae
      have HTW := hid (X.tw_none HN.out)
      have b10 := HT.out.1
      have b20 := HT.out.2
      generalize X.o1 none = z1 at *
      generalize X.o2 none = z2 at *
      have g0 := b10.cell0
      have g1 := b10.cell1
      have g2 := b20.cell0
      have g3 := b20.cell1
      have f1 := b10.fz
      have f2 := b20.fz
      have n1 : ¬ w.heap.size = w.heap.size + 1 := by omega
      have n2 : ¬ w.heap.size + 1 = w.heap.size := by omega
      have H10 := hid b10
      have H20 := hid b20
      clear b10 b20
      go_wp2
      try simp only [Exit.inBlock, Exit.then]
      refine bodyPost_ret (X.res3 rfl _ _ w.heap.size (w.heap.size + 1) (0, 0) (0, 0) _ rfl rfl rfl ?h1 ?h2) rfl ⟨?h3, ?h4⟩
      case h1 => exact ((H10.out.set (0, 0)).off n1).off n1
      case h2 => exact ((H20.out.off n2).off n2).set (0, 0)
      case h3 => rw [HTW.out]; rfl
      case h4 => exact ((((below_drewN HB.out _).setCell (p := ⟨w.heap.size, 0, none⟩) (Nat.le_refl _) _).setCell (p := ⟨w.heap.size, 1, none⟩) (Nat.le_refl _) _).setCell (p := ⟨w.heap.size + 1, 0, none⟩) (Nat.le_succ _) _).setCell (p := ⟨w.heap.size + 1, 1, none⟩) (Nat.le_succ _) _
end Go.Proofs.Ythaoacnaeafbeaa
