/- Package tuscheref09: the walk of coalitions. -/
import Derived.Test.YthnklabdjaiplaaDoorMBef
import Derived.Test.YthnklabdjaiplaaDoorMRow
import Derived.Test.YthnklabdjaiplaaDoorMRef3
import Derived.Test.YthnklabdjaiplaaDoorMSus
import Derived.BigRegion
namespace Go.Proofs.YthnklabdjaiplaaDoor
open Go.RowKit

/-- The coalitions so far: a row of one's own. -/
theorem M.Sm.push {s : Nat} {v v' : Value} {xs : List M.Cx} {W W' : World} (h : M.Sm s v xs W) (x : M.Cx) (hx : M.RC x W) (hsx : s ≤ x.g) (hown : W'.ownsRow s 25 1 v' (xs.length + 1) (xs.map M.enc1 ++ [M.enc1 x])) (hg : W.grownBy W' v.ownBlock) : M.Sm s v' (xs ++ [x]) W' := by
  have ne : ∀ y : M.Cx, M.RC y W → v.ownBlock = none ∨ some y.g ≠ v.ownBlock := fun y hy => by
    rcases h.row.2 with ⟨rfl, _⟩ | ⟨g, cap, cur, rfl, _, h2, _⟩
    · exact .inl rfl
    · refine .inr fun e => ?_
      have e' : y.g = g := by simpa [Value.ownBlock] using e
      rcases hy.1.2 with ⟨e1, _⟩ | ⟨g2, cap2, cur2, e1, _, k2, _⟩
      · cases e1
      · simp only [Value.slice.injEq, Option.some.injEq, Addr.mk.injEq, and_true] at e1
        rw [← e1.1, e', h2] at k2
        simp at k2
  have same : ∀ y : M.Cx, M.RC y W → W'.heap[y.g]? = W.heap[y.g]? := fun y hy => hg.block y.g hy.lt (by
    rcases ne y hy with e | e
    · rw [e]; simp
    · exact e)
  refine ⟨by simpa using hown, fun y hy => ?_, fun y hy => ?_⟩
  · rcases List.mem_append.1 hy with hy | hy
    · exact (h.rc y hy).of_block (same y (h.rc y hy))
    · rw [List.mem_singleton.1 hy]; exact hx.of_block (same x hx)
  · rcases List.mem_append.1 hy with hy | hy
    · exact h.ge y hy
    · rw [List.mem_singleton.1 hy]; exact hsx

theorem bv_of (n a : Nat) : (BitVec.ofInt n (a : Int)).toNat = a % 2 ^ n := by
  rw [BitVec.toNat_ofInt]; omega
theorem and_one_i64 {x : Nat} (hx : x < 2048) : bits .and .i64 (x : Int) 1 = ((x % 2 : Nat) : Int) := by
  have e : bits .and .i64 (x : Int) 1 = IntKind.i64.wrap ((BitVec.ofInt 64 (x : Int) &&& BitVec.ofInt 64 ((1 : Nat) : Int)).toNat : Int) := rfl
  rw [e, BitVec.toNat_and, bv_of, bv_of, Nat.mod_eq_of_lt (show x < 2 ^ 64 by omega), Nat.mod_eq_of_lt (show 1 < 2 ^ 64 by omega), Nat.and_one_is_mod]
  exact IntWalk.i64_in _ (by omega)
theorem bit_at {s : Nat} (hs : s < 2048) (c : Nat) : bits .and .i64 ((s : Int) / 2 ^ c) 1 = if s.testBit c = true then 1 else 0 := by
  have h1 : (s : Int) / 2 ^ c = ((s / 2 ^ c : Nat) : Int) := by rw [Int.natCast_ediv]; simp
  rw [h1, and_one_i64 (Nat.lt_of_le_of_lt (Nat.div_le_self _ _) hs), Nat.testBit_eq_decide_div_mod_eq]
  have : s / 2 ^ c % 2 < 2 := Nat.mod_lt _ (by decide)
  by_cases h : s / 2 ^ c % 2 = 1
  · simp [h]
  · have h0 : s / 2 ^ c % 2 = 0 := by omega
    simp [h0]
/-- The row of a list that is put in at place k. -/
def M.ins (xs : List M.Cx) (x : M.Cx) (k : Nat) : List M.Cx := xs.take k ++ x :: xs.drop k
theorem M.ins_len (xs : List M.Cx) (x : M.Cx) (k : Nat) : (M.ins xs x k).length = xs.length + 1 := by
  unfold M.ins
  rw [List.length_append, List.length_cons, ← Nat.add_assoc, ← List.length_append, List.take_append_drop]
theorem M.ins_at {xs : List M.Cx} {x : M.Cx} {k : Nat} (hk : k ≤ xs.length) : (M.ins xs x k).getD k ⟨0, 0, []⟩ = x := by
  unfold M.ins
  rw [List.getD_eq_getElem?_getD, List.getElem?_append_right (by rw [List.length_take]; omega), List.length_take, Nat.min_eq_left hk]
  simp
theorem M.ins_pre {xs : List M.Cx} {x : M.Cx} {k : Nat} (hk : k < xs.length) : (M.ins xs x (k + 1)).getD k ⟨0, 0, []⟩ = xs.getD k ⟨0, 0, []⟩ := by
  unfold M.ins
  rw [List.getD_eq_getElem?_getD, List.getElem?_append_left (by rw [List.length_take]; omega), List.getElem?_take, if_pos (by omega), ← List.getD_eq_getElem?_getD]
theorem M.ins_swap {xs : List M.Cx} {x : M.Cx} {k : Nat} (hk : k < xs.length) : ((M.ins xs x (k + 1)).map M.enc1 |>.set (k + 1) (M.enc1 (xs.getD k ⟨0, 0, []⟩)) |>.set k (M.enc1 x)) = (M.ins xs x k).map M.enc1 := by
  have e : xs.getD k ⟨0, 0, []⟩ = xs[k] := by rw [List.getD_eq_getElem?_getD, List.getElem?_eq_getElem hk]; rfl
  rw [e]
  unfold M.ins
  rw [List.take_succ_eq_append_getElem hk, List.drop_eq_getElem_cons hk]
  simp only [List.map_append, List.map_cons, List.append_assoc, List.cons_append, List.nil_append]
  have hl : ((xs.take k).map M.enc1).length = k := by rw [List.length_map, List.length_take]; omega
  rw [List.set_append_right _ _ (by omega), List.set_append_right _ _ (by omega), hl]
  simp
theorem M.Sm.swap {s g cap : Nat} {xs : List M.Cx} {x : M.Cx} {k : Nat} {W : World} (hk : k < xs.length) (h : M.Sm s (.slice (some ⟨g, 0, none⟩) (xs.length + 1) cap) (M.ins xs x (k + 1)) W) :
    M.Sm s (.slice (some ⟨g, 0, none⟩) (xs.length + 1) cap) (M.ins xs x k) ((W.setCell ⟨g, k + 1, none⟩ (M.enc1 (xs.getD k ⟨0, 0, []⟩))).setCell ⟨g, k, none⟩ (M.enc1 x)) := by
  have hrow := h.row
  rw [M.ins_len] at hrow
  have h1 := World.ownsRow.stored hrow (k + 1) (M.enc1 (xs.getD k ⟨0, 0, []⟩))
  have h2 := World.ownsRow.stored h1.1 k (M.enc1 x)
  rw [M.ins_swap hk] at h2
  have hmem : ∀ y, y ∈ M.ins xs x k ↔ y ∈ M.ins xs x (k + 1) := fun y => by
    unfold M.ins
    have q : ∀ j, y ∈ xs.take j ++ x :: xs.drop j ↔ y = x ∨ y ∈ xs := fun j => by
      rw [List.mem_append, List.mem_cons]
      conv => rhs; rw [← List.take_append_drop j xs, List.mem_append]
      constructor
      · rintro (a | a | a)
        · exact .inr (.inl a)
        · exact .inl a
        · exact .inr (.inr a)
      · rintro (a | a | a)
        · exact .inr (.inl a)
        · exact .inl a
        · exact .inr (.inr a)
    rw [q, q]
  have hne : ∀ y ∈ M.ins xs x (k + 1), y.g ≠ g := fun y hy e => by
    rcases hrow.2 with ⟨e1, _⟩ | ⟨g', cap', cur, e1, _, k2, _⟩
    · cases e1
    · simp only [Value.slice.injEq, Option.some.injEq, Addr.mk.injEq, and_true, true_and] at e1
      rcases (h.rc y hy).1.2 with ⟨e2, _⟩ | ⟨g2, cap2, cur2, e2, _, k3, _⟩
      · cases e2
      · simp only [Value.slice.injEq, Option.some.injEq, Addr.mk.injEq, and_true] at e2
        rw [← e2.1, e, e1.1, k2] at k3
        simp at k3
  refine ⟨by rw [M.ins_len]; exact h2.1, fun y hy => ?_, fun y hy => h.ge y ((hmem y).1 hy)⟩
  have hy' := (hmem y).1 hy
  have n := hne y hy'
  refine (h.rc y hy').of_block ?_
  have b1 := h1.2.block y.g (h.rc y hy').lt (fun e => n (by simpa using e))
  have b2 := h2.2.block y.g (by have := h1.2.size; have := (h.rc y hy').lt; omega) (fun e => n (by simpa using e))
  rw [b2, b1]

set_option maxHeartbeats 8000000 in
set_option maxRecDepth 100000 in
theorem coalitions_any (m : Int) (a : Option Addr) (c : Nat) (T : List (List Int)) (sz : Int) (w : World) (h10 : T.length ≤ 10) :
    Calls Tryd.prog 57 #[M.cv m a T.length c, .int .i64 sz] w fun e w' => ∃ v xs, e = .returned v ∧ M.Sm (w.heap.size + 1) v xs w' ∧ xs.map (·.l) = M.lxs T.length sz.toNat ∧ Below w.heap.size w w' := by
  obtain ⟨i0, hi, hz0, hz1, hz2⟩ := info_parts (show (Tryd.prog.info? 3).map (fun i => (i.zero, i.size, i.bytes)) = some (some (.int .i64 0), 1, 8) by kernel_rfl)
  obtain ⟨i1, gi, gz0, gz1, gz2⟩ := info_parts (show (Tryd.prog.info? 25).map (fun i => (i.zero, i.size, i.bytes)) = some (some (.slice none 0 0), 1, 24) by kernel_rfl)
  obtain ⟨W, hW, c0, c1, hB, hlt⟩ := M.newT w 28 (.int .i64 m) (.slice a T.length c)
  have hsz : W.heap.size = w.heap.size + 1 := by rw [← hW]; simp
  rw [← hsz]
  have HB := hid hB
  have HSZ := hid hsz
  unfold M.cv
  clear hB hsz
  generalize hN : T.length = N at *
  clear hN
  obtain ⟨p, hp⟩ : ∃ p, 2 ^ N = p := ⟨_, rfl⟩
  have HP := hid hp
  have hp10 : p ≤ 1024 := by
    rw [← hp]
    exact Nat.le_trans (Nat.pow_le_pow_right (by omega) h10) (by decide)
  have hp1 : 1 ≤ p := by rw [← hp]; exact Nat.one_le_two_pow
  have hw2 : wrap64 ((2 : Int) ^ N) = (p : Int) := by
    rw [show ((2 : Int) ^ N) = ((2 ^ N : Nat) : Int) by simp, hp]
    exact IntWalk.wrap64_in _ (by omega)
  clear hp
  go_enter Tryd.func57, Tryd.ntmps57
  go_wp2_with fail
  rw [hW] at *
  go_wp2
  go_loopw [5, 6] (fun v i wr => ∃ s : Nat, 1 ≤ s ∧ s ≤ p ∧ i = .int .i64 s ∧ ∃ xs, M.Sm W.heap.size v xs wr ∧ M.Cs N sz s (xs.map (·.l)) ∧ xs.length < s ∧ Below W.heap.size W wr) (fun _ i _ => p - (intOf i).toNat)
  case atStart => exact ⟨1, Nat.le_refl _, hp1, rfl, [], ⟨World.ownsRow_nil _ _ _ _, fun _ h => by simp at h, fun _ h => by simp at h⟩, ⟨List.Pairwise.nil, fun l => ⟨fun h => by simp at h, fun ⟨t, h1, h2, _⟩ => by omega⟩⟩, by simp, Below.refl _ _⟩
  case round =>
    obtain ⟨s, hs1, hs2, rfl, xs, hsm, hcs, hxl, hb⟩ := hrel
    have d0 := cell_stays hb (Nat.le_refl _) c0
    have d1 := cell_stays hb (Nat.le_refl _) c1
    have HSM := hid hsm
    have HCS := hid hcs
    have HBR := hid hb
    obtain ⟨av, cv, rfl⟩ := hsm.len
    clear hsm hcs hb
    generalize wr = wo at *
    by_cases hlt2 : s < p
    · have HSP : Hid (s < 2 ^ N) := hid (by rw [HP.out]; exact hlt2)
      go_wp2
      try rw [hw2]
      clear hw2
      go_loopw [7, 8] (fun lv i wr => ∃ j : Nat, j ≤ N ∧ i = .int .i64 j ∧ RowI wr wo.heap.size lv (M.toI (M.bits s j)) ∧ Below wo.heap.size wo wr) (fun _ i _ => N - (intOf i).toNat)
      case atStart => exact ⟨0, Nat.zero_le _, rfl, RowI.nil _ _, Below.refl _ _⟩
      case round =>
        obtain ⟨j, hj, rfl, hrow, hbx⟩ := hrel
        have HROW := hid hrow
        have HBX := hid hbx
        have f0 := cell_stays hbx (Nat.le_refl _) d0
        have f1 := cell_stays hbx (Nat.le_refl _) d1
        obtain ⟨al, cl, rfl, -⟩ := hrow.rd
        clear hrow hbx
        have hlen := M.bits_len s j
        by_cases hjl : j < N
        · have HSB : Hid (M.bits s (j + 1) = if s.testBit j then M.bits s j ++ [j] else M.bits s j) := hid rfl
          have HBIT := hid (bit_at (s := s) (by omega) j)
          by_cases hbt : s.testBit j = true
          · have hbb : bits BinOp.and IntKind.i64 ((s : Int) / 2 ^ j) 1 = 1 := by rw [HBIT.out, if_pos hbt]
            have HS2 : Hid (M.toI (M.bits s (j + 1)) = M.toI (M.bits s j) ++ [(j : Int)]) := hid (by rw [HSB.out, if_pos hbt]; unfold M.toI; simp)
            have HM1 : Hid ((M.toI (M.bits s j)).length + 1 ≤ maxLen) := hid (by rw [M.toI_len]; unfold maxLen; omega)
            have HM2 : Hid (((M.toI (M.bits s j)).length + 1) * 8 ≤ 140737488355328) := hid (by rw [M.toI_len]; omega)
            clear hbt hlen
            generalize M.toI (M.bits s j) = F at *
            go_wp2_with (at_builtin; refine wpList_append_own _ rfl _ _ 25 rfl wo.heap.size 3 i0 (.int .i64 0) 1 8 Tryd.underlying25 hi hz0 hz1 hz2 rfl (by decide) _ _ _ rfl (World.ownsRow.alloc HROW.out _) ⟨wr.heap.size, 0, none⟩ 1 1 [.int .i64 (j : Int)] rfl rfl (cell_one_new _ _ _) (by simp [Value.oneCell']) HM1.out HM2.out (Nat.le_trans HBX.out.size (by simp)) ?_; intro v' w9 hown' hgrow _)
            have HB9 := hid (Below.grown (HBX.out.alloc HBX.out.size (.cells #[.int .i64 (j : Int)] 3)) hgrow (by simp; have := HBX.out.size; omega) (fun q hq => (World.ownsRow.lt HROW.out q hq).1))
            have HO9 := hid (RowI.push hown')
            clear hown' hgrow
            go_roundw
            case rel => exact ⟨j + 1, by omega, by go_num, by rw [HS2.out]; exact HO9.out, HB9.out⟩
            case measure => simp [intOf]; omega
          · have hbb : bits BinOp.and IntKind.i64 ((s : Int) / 2 ^ j) 1 = 0 := by rw [HBIT.out, if_neg hbt]
            have HS2 : Hid (M.toI (M.bits s (j + 1)) = M.toI (M.bits s j)) := hid (by rw [HSB.out, if_neg hbt])
            clear hbt hlen
            generalize M.toI (M.bits s j) = F at *
            go_wp2
            go_roundw
            case rel => exact ⟨j + 1, by omega, by go_num, by rw [HS2.out]; exact HROW.out, HBX.out⟩
            case measure => simp [intOf]; omega
        · have hje : N = j := by omega
          subst hje
          clear hj hjl
          have hBl : 1 ≤ (M.bits s N).length := M.bits_pos hs1 HSP.out
          have HNOT := hid (HCS.out.not HSP.out)
          have HSX := hid (HSM.out.stays HBX.out)
          have HBW := hid (HBR.out.trans (HBX.out.mono HBR.out.size))
          obtain ⟨g, rfl, hgw⟩ : ∃ g, al = some ⟨g, 0, none⟩ ∧ wo.heap.size ≤ g := by
            rcases HROW.out.2 with ⟨e1, e2⟩ | ⟨g, cap, cur, e1, hg, _⟩
            · rw [M.toI_len] at e2; omega
            · simp only [Value.slice.injEq] at e1
              exact ⟨g, e1.1, hg⟩
          rw [M.toI_len]
          by_cases hle : ((M.bits s N).length : Int) ≤ sz
          · have hle' : decide (sz < ((M.bits s N).length : Int)) = false := decide_eq_false (by omega)
            obtain ⟨x, hx⟩ : ∃ x : M.Cx, x = ⟨g, cl, M.bits s N⟩ := ⟨_, rfl⟩
            have HX := hid hx
            have hrc : M.RC x wr := by
              rw [hx]
              have h := HROW.out.mono (Nat.zero_le _)
              rw [M.toI_len] at h
              exact ⟨h, hBl⟩
            have HRC := hid hrc
            have HXG : Hid (W.heap.size ≤ x.g) := hid (by rw [hx]; exact Nat.le_trans HBR.out.size hgw)
            have HXL : Hid (x.l = M.bits s N) := hid (by rw [hx])
            have hxen : Value.slice (some ⟨g, 0, none⟩) (M.bits s N).length cl = M.enc1 x := by rw [hx]; rfl
            have HXE := hid hxen
            have hxll : xs.length ≤ 1024 := by omega
            have hxsz : ((xs.length : Int) + 1) * 24 ≤ 140737488355328 := by omega
            have HM1 : Hid (xs.length + 1 ≤ maxLen) := hid (by unfold maxLen; omega)
            have HM2 : Hid ((xs.length + 1) * 24 ≤ 140737488355328) := hid (by omega)
            generalize hB : (M.bits s N).length = bl at *
            clear hx hrc hxen hxsz
            go_wp2_with (at_builtin; refine wpList_append_own _ rfl _ _ 22 rfl W.heap.size 25 i1 (.slice none 0 0) 1 24 Tryd.underlying22 gi gz0 gz1 gz2 rfl (by decide) _ _ _ rfl (World.ownsRow.alloc HSX.out.row _) ⟨wr.heap.size, 0, none⟩ 1 1 [.slice (some ⟨g, 0, none⟩) bl cl] rfl rfl (cell_one_new _ _ _) (by simp [Value.oneCell']) HM1.out HM2.out (Nat.le_trans HBW.out.size (by simp)) ?_; intro v' w9 hown' hgrow _; rw [HXE.out] at hown'; obtain ⟨g', cap', rfl⟩ := ownsRow_succ hown')
            have HBA := hid (Below.grown (HBW.out.alloc HBW.out.size (.cells #[.slice (some ⟨g, 0, none⟩) bl cl] 25)) hgrow (by simp; have := HBW.out.size; omega) (fun q hq => (World.ownsRow.lt HSX.out.row q hq).1))
            have hal : Below wr.heap.size wr (wr.alloc (.cells #[.slice (some ⟨g, 0, none⟩) bl cl] 25)) := (Below.refl _ _).alloc (Nat.le_refl _) _
            have HSP9 := hid ((HSX.out.stays hal).push x (HRC.out.of_block (hal.block _ HRC.out.lt)) HXG.out hown' hgrow)
            clear hown' hgrow hal
            have hxs9 : xs ++ [x] = M.ins xs x xs.length := by unfold M.ins; simp
            have HX0 := hid hxs9
            clear hxs9
            generalize w9 = wq at *
            have HLE := hid hle'
            have HFIN : Hid (∀ k, k ≤ xs.length → (∀ y ∈ (xs.map (·.l)).drop k, M.lex x.l y) → (0 < k → M.lex ((xs.map (·.l)).getD (k - 1) []) x.l) → M.Cs N sz (s + 1) ((M.ins xs x k).map (·.l))) := hid (fun k hk h1 h2 => by
              have e : (M.ins xs x k).map (·.l) = (xs.map (·.l)).take k ++ M.bits s N :: (xs.map (·.l)).drop k := by
                unfold M.ins
                rw [List.map_append, List.map_cons, List.map_take, List.map_drop, HXL.out]
              rw [e]
              rw [HXL.out] at h1 h2
              exact HCS.out.put hs1 (by rw [hB]; exact hle) h1 (M.take_less HCS.out.srt (by simpa using hk) h2))
            have HNIN : Hid (x.l ∉ xs.map (·.l)) := hid (by rw [HXL.out]; exact HNOT.out)
            go_loopw [9] (fun i wz => ∃ k : Nat, k ≤ xs.length ∧ i = .int .i64 k ∧ M.Sm W.heap.size (.slice (some ⟨g', 0, none⟩) (xs.length + 1) cap') (M.ins xs x k) wz ∧ (∀ y ∈ (xs.map (·.l)).drop k, M.lex x.l y) ∧ Below W.heap.size W wz) (fun i _ => (intOf i).toNat)
            case atStart => exact ⟨xs.length, Nat.le_refl _, by go_num, by rw [← HX0.out]; exact HSP9.out, fun y hy => by rw [List.drop_eq_nil_of_le (by simp)] at hy; simp at hy, HBA.out⟩
            case round =>
              obtain ⟨k, hk, rfl, hsm, hlx, hbz⟩ := hrel
              have HSZ3 := hid hsm
              have HLX := hid hlx
              have HBZ := hid hbz
              clear hsm hlx hbz
              by_cases hk0 : k = 0
              · have hk1 : decide (0 < k) = false := decide_eq_false (by omega)
                go_wp2
                go_quiet (fail)
                go_wp2
                refine ⟨⟨s + 1, by omega, by omega, by go_num, M.ins xs x k, HSZ3.out.stays (below_drewN (Below.refl _ _) _), HFIN.out k hk HLX.out (fun h => by omega), by rw [M.ins_len]; omega, below_drewN HBZ.out _⟩, by simp [intOf]; omega⟩
              · obtain ⟨q, hqk⟩ : ∃ q, k = q + 1 := ⟨k - 1, by omega⟩
                have HQK := hid hqk
                have hq : q < xs.length := by omega
                obtain ⟨y, hy⟩ : ∃ y, xs.getD q ⟨0, 0, []⟩ = y := ⟨_, rfl⟩
                have HY := hid hy
                have hym : y ∈ xs := by
                  rw [← hy, List.getD_eq_getElem?_getD, List.getElem?_eq_getElem hq]
                  exact List.getElem_mem _
                have hlen := M.ins_len xs x k
                have c1' : wr.cell? ⟨g', k, none⟩ = some (M.enc1 x) := by
                  subst hqk
                  have h := World.ownsRow.cellAt (by have h := HSZ3.out.row; rw [hlen] at h; exact h) (q + 1) (by omega)
                  rw [h, List.getElem?_map]
                  have e := M.ins_at (xs := xs) (x := x) (k := q + 1) (by omega)
                  rw [List.getD_eq_getElem?_getD] at e
                  have hl : q + 1 < (M.ins xs x (q + 1)).length := by rw [hlen]; omega
                  rw [List.getElem?_eq_getElem hl] at e ⊢
                  simp only [Option.getD_some] at e
                  simp [e]
                have c2' : wr.cell? ⟨g', q, none⟩ = some (M.enc1 y) := by
                  subst hqk
                  have h := World.ownsRow.cellAt (by have h := HSZ3.out.row; rw [hlen] at h; exact h) q (by omega)
                  rw [h, List.getElem?_map]
                  have e := M.ins_pre (xs := xs) (x := x) hq
                  rw [hy, List.getD_eq_getElem?_getD] at e
                  have hl : q < (M.ins xs x (q + 1)).length := by rw [hlen]; omega
                  rw [List.getElem?_eq_getElem hl] at e ⊢
                  simp only [Option.getD_some] at e
                  simp [e]
                have hxi : x ∈ M.ins xs x k := by unfold M.ins; simp
                have hyi : y ∈ M.ins xs x k := by
                  unfold M.ins
                  rw [List.mem_append, List.mem_cons]
                  rw [← List.take_append_drop k xs, List.mem_append] at hym
                  rcases hym with h | h
                  · exact .inl h
                  · exact .inr (.inr h)
                have hyl : y.l.length ≤ 10 := by
                  obtain ⟨t, _, _, e, _⟩ := (HCS.out.mem y.l).1 (List.mem_map_of_mem hym)
                  rw [e]
                  have := M.bits_len t N
                  omega
                have hxl10 : x.l.length ≤ 10 := by
                  rw [HXL.out]
                  have := M.bits_len s N
                  omega
                have hyq : (xs.map (·.l)).getD q [] = y.l := by
                  rw [← hy, List.getD_eq_getElem?_getD, List.getElem?_map, List.getD_eq_getElem?_getD, List.getElem?_eq_getElem hq]
                  rfl
                have HYQ := hid hyq
                have HYM : Hid (y.l ∈ xs.map (·.l)) := hid (List.mem_map_of_mem hym)
                have HBF := hid (fun n => before_any (some ⟨x.g, 0, none⟩) (some ⟨y.g, 0, none⟩) x.cap y.cap (M.toI x.l) (M.toI y.l) (wr.drewN n) (by rw [M.toI_len]; unfold maxLen; omega) (by rw [M.toI_len]; unfold maxLen; omega) ((HSZ3.out.rc x hxi).1.rdI.stays (below_drewN (Below.refl _ _) n)) ((HSZ3.out.rc y hyi).1.rdI.stays (below_drewN (Below.refl _ _) n)))
                rw [M.toI_len, M.toI_len] at HBF
                have hk1 : decide (0 < k) = true := decide_eq_true (by omega)
                have hk3 : (0 : Int) ≤ (k : Int) ∧ (k : Int) < (xs.length : Int) + 1 := by omega
                have hk5 : (0 : Int) ≤ (k : Int) - 1 ∧ (k : Int) - 1 < (xs.length : Int) + 1 := by omega
                have hk4 : ((k : Int) - 1).toNat = q := by omega
                have hfz : ∀ o, wr.frozen? ⟨g', o, none⟩ = false := fun o => by
                  rcases HSZ3.out.row.2 with ⟨e1, _⟩ | ⟨g2, cap2, cur, e1, _, k2, _⟩
                  · cases e1
                  · simp only [Value.slice.injEq, Option.some.injEq, Addr.mk.injEq, and_true] at e1
                    rw [e1.1]
                    unfold World.frozen?
                    simp [k2]
                have HFZ := hid hfz
                have HHY : Hid (xs.getD q ⟨0, 0, []⟩ = y) := hid hy
                have HHQ : Hid (q < xs.length) := hid hq
                clear hy hym hlen hxi hyi hyl hxl10 hyq hqk hk0 hfz hq
                have HX1 : Hid (M.enc1 x = .slice (some ⟨x.g, 0, none⟩) x.l.length x.cap) := hid rfl
                have HY1 : Hid (M.enc1 y = .slice (some ⟨y.g, 0, none⟩) y.l.length y.cap) := hid rfl
                rw [HX1.out] at c1'
                rw [HY1.out] at c2'
                cases hbf : M.bef (M.toI x.l) (M.toI y.l) with
                | false =>
                  have HNL : Hid (¬ M.lex x.l y.l) := hid (fun h => by rw [(M.bef_lex x.l y.l).2 h] at hbf; cases hbf)
                  rw [hbf] at HBF
                  clear hbf
                  go_wp2
                  go_quiet ((go_at_call 59; (first | exact Calls.quiet_of (HBF.out _) | exact quiet_more (HBF.out _))))
                  go_wp2
                  refine ⟨⟨s + 1, by omega, by omega, by go_num, M.ins xs x k, HSZ3.out.stays (below_drewN (Below.refl _ _) _), HFIN.out k hk HLX.out (fun h => by
                    rw [show k - 1 = q by have := HQK.out; omega, HYQ.out]
                    rcases M.lex_total x.l y.l with e | e | e
                    · exact absurd e HNL.out
                    · exact absurd (e ▸ HYM.out) HNIN.out
                    · exact e), by rw [M.ins_len]; omega, below_drewN HBZ.out _⟩, by simp [intOf]; omega⟩
                | true =>
                  have HNL : Hid (M.lex x.l y.l) := hid ((M.bef_lex x.l y.l).1 hbf)
                  rw [hbf] at HBF
                  clear hbf
                  go_wp2
                  go_quiet ((go_at_call 59; (first | exact Calls.quiet_of (HBF.out _) | exact quiet_more (HBF.out _))))
                  have HSD := hid (HSZ3.out.stays (below_drewN (Below.refl _ _) nq))
                  have HBD := hid (below_drewN HBZ.out nq)
                  have g1 : (wr.drewN nq).cell? ⟨g', k, none⟩ = some (.slice (some ⟨x.g, 0, none⟩) x.l.length x.cap) := by simpa using c1'
                  have g2 : (wr.drewN nq).cell? ⟨g', q, none⟩ = some (.slice (some ⟨y.g, 0, none⟩) y.l.length y.cap) := by simpa using c2'
                  have hf1 : (wr.drewN nq).frozen? ⟨g', k, none⟩ = false := by simpa using HFZ.out k
                  have hf2 : (wr.drewN nq).frozen? ⟨g', q, none⟩ = false := by simpa using HFZ.out q
                  clear c1' c2'
                  generalize wr.drewN nq = wt at *
                  clear HBF HSZ3 HBZ HFZ
                  go_wp2_with fail
                  go_region
                  go_wp2
                  have hk' := HQK.out
                  subst hk'
                  have hsd := HSD.out
                  have hgb : W.heap.size ≤ g' := (World.ownsRow.lt hsd.row g' rfl).1
                  have hsw := M.Sm.swap HHQ.out hsd
                  rw [HHY.out] at hsw
                  have hb2 : Below W.heap.size W (((wt.setCell ⟨g', q + 1, none⟩ (M.enc1 y)).setCell ⟨g', q, none⟩ (M.enc1 x)).drew) := ((HBD.out.setCell (by exact hgb) _).setCell (by exact hgb) _).drew
                  refine ⟨⟨q, by omega, by go_num, hsw.stays (Below.refl _ _).drew, fun z hz => ?_, hb2⟩, by simp [intOf]⟩
                  rw [List.drop_eq_getElem_cons (show q < (xs.map (·.l)).length by simpa using HHQ.out)] at hz
                  rcases List.mem_cons.1 hz with rfl | hz
                  · have e : (xs.map (·.l))[q]'(by simpa using HHQ.out) = y.l := by
                      rw [← HYQ.out, List.getD_eq_getElem?_getD, List.getElem?_eq_getElem (by simpa using HHQ.out)]
                      rfl
                    rw [e]
                    exact HNL.out
                  · exact HLX.out z hz
          · have hle' : decide (sz < ((M.bits s N).length : Int)) = true := decide_eq_true (by omega)
            have HC2 := hid (HCS.out.skip hle)
            generalize (M.bits s N).length = bl at *
            go_wp2
            go_roundw
            case rel => exact ⟨s + 1, by omega, by omega, by go_num, xs, HSX.out, HC2.out, by omega, HBW.out⟩
            case measure => simp [intOf]; omega
    · have hse : s = p := by omega
      subst hse
      go_wp2
      go_ret
      exact ⟨_, xs, rfl, HSM.out, by rw [← HP.out] at HCS; exact HCS.out.all, HB.out.trans (HBR.out.mono HB.out.size)⟩
end Go.Proofs.YthnklabdjaiplaaDoor
