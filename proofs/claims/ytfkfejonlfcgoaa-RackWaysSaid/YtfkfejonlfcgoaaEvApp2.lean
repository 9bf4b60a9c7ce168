import Derived.Test.YtfkfejonlfcgoaaEvApp
namespace Go.Proofs.Ytfkfejonlfcgoaa.Ev
open Go Go.RowKit
section
variable {P : Program} {ρ : Rho} {st : St} {w : World}

theorem zeroCells_zero (z : Array Value) : Builtin.zeroCells z 0 = #[] := by unfold Builtin.zeroCells; simp

theorem firstCells_sl {size n c : Nat} {a : Addr} : Builtin.firstCells size n (.slice (some a) n c) = loadCells a (n * size) := rfl

theorem addedA_sound (H : RelH ρ st w) {at' : Array TypeId} {ty sT xT e : TypeId} {d : TypeDesc} {info : TypeInfo} {z : Value} {zeros : Bool} {x : AV} {y : Value} {m : Nat} {new : List AV}
    (h0 : at'[0]? = some sT) (h1 : at'[1]? = some xT) (hs : P.underlying sT = some (.slice e)) (hx : P.underlying xT = some d) (hzd : if zeros then ∃ k, d = .int k else ∀ k, d ≠ .int k) (hi : semP P (typeInfo e) = some info) (hzz : info.zero = some z)
    (hxy : RelV ρ x y) (ea : addedA st info z zeros x = some (m, new)) (hlen : new.length = m * info.size) (hsz : 1 ≤ info.size) (hm : m ≤ 65536) (hby : info.bytes ≤ 65536) :
    ∃ arr : Array Value, RelL ρ new arr.toList ∧
      (∀ base n c w', n + m ≤ c → (match base with | some a => storeCells (a.add (n * info.size)) arr.toList | none => pure () : Sem Unit).run P w = .ok () w' →
        (Builtin.append_ at' ty #[.slice base n c, y]).run P w = .ok (.slice base (n + m) c) w') ∧
      (∀ base n c old, 0 < m → c < n + m → n + m ≤ 131072 → (Builtin.firstCells info.size n (.slice base n c)).run P w.drew = .ok old w.drew → ∃ cap, n + m ≤ cap ∧
        (Builtin.append_ at' ty #[.slice base n c, y]).run P w = .ok (.slice (some ⟨w.heap.size, 0, none⟩) (n + m) cap) (w.drew.alloc (.cells (old ++ arr ++ Builtin.zeroCells z.cells (cap - (n + m))) e))) := by
  cases zeros with
  | true =>
    obtain ⟨kx, rfl⟩ : ∃ k, d = .int k := by simpa using hzd
    simp only [addedA, cond_true] at ea
    split at ea
    case h_2 => cases ea
    rename_i k m'
    cases hb : m'.ble 65536 with
    | false => rw [hb] at ea; cases ea
    | true =>
      rw [hb] at ea; simp only [cond_true, Option.some.injEq, Prod.mk.injEq] at ea
      obtain ⟨rfl, rfl⟩ := ea
      rw [relV_sc.1 hxy]
      refine ⟨Builtin.zeroCells z.cells m', RelL.scs _, fun base n c w' hfit hst => ?_, fun base n c old hpos hfit hbig ho => ?_⟩
      · refine append_fits_z h0 h1 hs hx hi hzz hm hby hfit ?_
        by_cases h0 : m' * info.size = 0
        · have : m' = 0 := by
            rcases Nat.mul_eq_zero.1 h0 with h | h
            · exact h
            · omega
          subst this
          rw [if_pos h0]; rw [zeroCells_zero] at hst; exact hst
        · rw [if_neg h0]; exact hst
      · exact append_grows_z h0 h1 hs hx hi hzz hm ho hfit hbig hby (Nat.pos_iff_ne_zero.1 (Nat.mul_pos hpos hsz))
  | false =>
    have hzd' : ∀ k, d ≠ .int k := by simpa using hzd
    simp only [addedA, cond_false] at ea
    have fin : ∀ arr : Array Value, RelL ρ new arr.toList → (Builtin.lenOf y).run P w = .ok m w → (∀ w1 : World, (w1 = w ∨ w1 = w.drew) → (Builtin.firstCells info.size m y).run P w1 = .ok arr w1) →
        ∃ arr : Array Value, RelL ρ new arr.toList ∧
      (∀ base n c w', n + m ≤ c → (match base with | some a => storeCells (a.add (n * info.size)) arr.toList | none => pure () : Sem Unit).run P w = .ok () w' →
        (Builtin.append_ at' ty #[.slice base n c, y]).run P w = .ok (.slice base (n + m) c) w') ∧
      (∀ base n c old, 0 < m → c < n + m → n + m ≤ 131072 → (Builtin.firstCells info.size n (.slice base n c)).run P w.drew = .ok old w.drew → ∃ cap, n + m ≤ cap ∧
        (Builtin.append_ at' ty #[.slice base n c, y]).run P w = .ok (.slice (some ⟨w.heap.size, 0, none⟩) (n + m) cap) (w.drew.alloc (.cells (old ++ arr ++ Builtin.zeroCells z.cells (cap - (n + m))) e))) := by
      intro arr hr hl hf
      exact ⟨arr, hr, fun base n c w' hfit hst => append_fits h0 h1 hs hx hzd' hi hl (hf w (.inl rfl)) hfit hst,
        fun base n c old _ hfit hbig ho => append_grows h0 h1 hs hx hzd' hi hzz hl (hf _ (.inr rfl)) ho hfit hbig hby⟩
    split at ea
    · rename_i j k n zz c
      split at ea
      case h_2 => cases ea
      rename_i l hl
      simp only [Option.some.injEq, Prod.mk.injEq] at ea
      obtain ⟨rfl, rfl⟩ := ea
      obtain ⟨a, cap, ha, hn, _, rfl⟩ := relV_sl.1 hxy
      by_cases hn0 : n = 0
      · subst hn0
        simp only [Nat.zero_mul, rdCells, Option.some.injEq] at hl
        subst hl
        exact fin #[] (RelL.nil_iff.2 rfl) rfl (fun w1 _ => by unfold Builtin.firstCells; simp only [Nat.zero_mul]; rfl)
      · obtain ⟨xs, g1, g2, g3⟩ := run_loadCells_rel (P := P) H hl (ha (by omega)).1
        obtain ⟨xs', g1', g2', g3'⟩ := run_loadCells_rel (P := P) H.drew hl (ha (by omega)).1
        have : xs' = xs := by
          obtain ⟨xs2, k1, k2, k3⟩ := H.rds hl (ha (by omega)).1
          obtain ⟨xs3, q1, q2, q3⟩ := H.drew.rds hl (ha (by omega)).1
          have r1 : (loadCells a (n * info.size)).run P w = .ok xs2.toArray w := by rw [← k2]; exact run_loadCells_list (P := P) w a xs2 k3
          have r2 : (loadCells a (n * info.size)).run P w.drew = .ok xs2.toArray w.drew := by rw [← k2]; exact run_loadCells_list (P := P) w.drew a xs2 k3
          have s1 := (Result.ok.inj (g3.symm.trans r1)).1
          have s2 := (Result.ok.inj (g3'.symm.trans r2)).1
          simp at s1 s2
          rw [s1, s2]
        subst this
        refine fin xs'.toArray (by simpa using g1) rfl (fun w1 hw1 => ?_)
        rcases hw1 with rfl | rfl
        · exact g3
        · exact g3'
    · rename_i n c
      cases hb : n.beq 0 with
      | false => rw [hb] at ea; cases ea
      | true =>
        rw [hb] at ea; simp only [cond_true, Option.some.injEq, Prod.mk.injEq] at ea
        obtain ⟨rfl, rfl⟩ := ea
        have hn0 : n = 0 := Nat.eq_of_beq_eq_true hb
        subst hn0
        have hy := relV_sc.1 hxy
        subst hy
        refine fin #[] (RelL.nil_iff.2 rfl) rfl (fun w1 _ => rfl)
    · rename_i b
      simp only [Option.some.injEq, Prod.mk.injEq] at ea
      obtain ⟨rfl, rfl⟩ := ea
      have hy := relV_sc.1 hxy
      subst hy
      refine fin (b.data.map fun b => .int .u8 b.toNat) ?_ rfl (fun w1 _ => ?_)
      · have := RelL.scs (ρ := ρ) ((b.data.toList.map fun b => Value.int .u8 b.toNat))
        rw [Array.toList_map]
        rw [show (b.data.toList.map fun b => AV.sc (Value.int .u8 b.toNat)) = scs (b.data.toList.map fun b => Value.int .u8 b.toNat) by simp [scs]]
        exact this
      · have : b.extract 0 b.size = b := by simp
        show (pure ((b.extract 0 b.size).data.map fun b => Value.int .u8 b.toNat) : Sem (Array Value)).run P w1 = _
        rw [this]; rfl
    · cases ea

/-- Cells that are there are loaded, whatever they hold. -/
theorem loaded (w1 : World) {a : Addr} {N : Nat} (h : ∀ q, q < N → ∃ y, w1.cell? (a.add q) = some y) :
    ∃ xs : List Value, xs.length = N ∧ (loadCells a N).run P w1 = .ok xs.toArray w1 ∧ ∀ q y, xs[q]? = some y → w1.cell? (a.add q) = some y := by
  refine ⟨(List.range N).map fun q => (w1.cell? (a.add q)).getD undef, by simp, ?_, ?_⟩
  · have hl : ((List.range N).map fun q => (w1.cell? (a.add q)).getD undef).length = N := by simp
    have := run_loadCells_list (P := P) w1 a ((List.range N).map fun q => (w1.cell? (a.add q)).getD undef) (fun q v hq => ?_)
    · rw [hl] at this; exact this
    · simp only [List.getElem?_map, Option.map_eq_some_iff] at hq
      obtain ⟨q', hq1, hq2⟩ := hq
      have hlt : q < N := by
        by_cases hh : q < N
        · exact hh
        · rw [List.getElem?_eq_none (by simp; omega)] at hq1; cases hq1
      rw [List.getElem?_range hlt] at hq1; cases hq1
      obtain ⟨y, hy⟩ := h q hlt
      rw [hy] at hq2 ⊢; simp at hq2; rw [hq2]
  · intro q y hq
    simp only [List.getElem?_map, Option.map_eq_some_iff] at hq
    obtain ⟨q', hq1, hq2⟩ := hq
    have hlt : q < N := by
      by_cases hh : q < N
      · exact hh
      · rw [List.getElem?_eq_none (by simp; omega)] at hq1; cases hq1
    rw [List.getElem?_range hlt] at hq1; cases hq1
    obtain ⟨y', hy⟩ := h q hlt
    rw [hy] at hq2 ⊢; simp at hq2; rw [hq2]

theorem RelH.freshNone {ρ : Rho} {st : St} {w : World} (H : RelH ρ st w) : ρ st.nx = none := H.none_nx (Nat.le_refl _)

theorem one'_of {v : AV} {x : Value} (h : RelV ρ v x) (ho : v.one = true) : x.oneCell' = true := by
  have := h.one ho
  cases x <;> first | rfl | exact this.elim

/-- A version, where the append lies in place. -/
theorem versionA_fits (H : RelH ρ st w) {i k n m size : Nat} {c : Option Nat} {new : List AV} {v : AV} {st' : St} (e : versionA st i k n m size c new = some (v, st'))
    {a : Addr} {cap : Nat} (ha : At ρ i k a) (hroom : Room ρ i (k + cap * size)) (hcap : ∀ q, c = some q → cap = q) {xs : List Value} (hl : RelL ρ new xs) (hlen : new.length = m * size) (hfit : n + m ≤ cap) :
    ∃ w', (storeCells (a.add (n * size)) xs).run P w = .ok () w' ∧ ∃ ρ', RelV ρ' v (.slice (some a) (n + m) cap) ∧ RelH ρ' st' w' ∧ Fr ρ st w ρ' st' w' := by
  unfold versionA at e
  split at e
  case h_2 => cases e
  rename_i cs lo hi cls t hg
  cases hb : (lo.ble k && (k + n * size).ble hi && allOne new) with
  | false => rw [hb] at e; cases e
  | true =>
    rw [hb] at e; simp only [cond_true] at e
    simp only [Bool.and_eq_true, Nat.ble_eq] at hb
    obtain ⟨⟨b1, b2⟩, b3⟩ := hb
    split at e
    case h_2 => cases e
    rename_i c' lo' hi' cl' u hroot
    simp only [Option.some.injEq, Prod.mk.injEq] at e
    obtain ⟨rfl, rfl⟩ := e
    obtain ⟨b, o, en, hp, hen, hcells⟩ := H.obj i _ hg
    obtain ⟨_, _, _, hp2, hroom'⟩ := hroom
    rw [hp] at hp2; cases hp2
    have hm1 : (n + m) * size = n * size + m * size := Nat.add_mul _ _ _
    have hm2 : (n + m) * size ≤ cap * size := Nat.mul_le_mul_right _ hfit
    have hxl := hl.length
    obtain ⟨_, _, _, hp3, ab, as, ao⟩ := ha
    rw [hp] at hp3; cases hp3
    -- where the new cells lie
    have ha' : (a.add (n * size)).block = b ∧ (a.add (n * size)).spot = none ∧ (a.add (n * size)).off = a.off + n * size := by
      unfold Addr.add
      by_cases h0 : n * size = 0
      · rw [if_pos h0]; exact ⟨ab, as, by omega⟩
      · rw [if_neg h0]; exact ⟨ab, rfl, rfl⟩
    have hex : ∀ q, q < xs.length → (∃ y, w.cell? ⟨b, (a.off + n * size) + q, none⟩ = some y) ∧ w.frozen? ⟨b, (a.off + n * size) + q, none⟩ = false := by
      intro q hq
      obtain ⟨m', hm', hf, y, hy, _⟩ := hcells (k + n * size + q) (by omega) (by omega)
      have : m' = a.off + n * size + q := by omega
      subst this
      exact ⟨⟨y, hy⟩, hf⟩
    obtain ⟨w', r1, r2, r3, r4, r5, r6, r7, r8, r9⟩ := run_storeCells_desc P (b := b) (n0 := a.off + n * size) (xs := xs) (j := 0) (w := w) (a.add (n * size)) ha'.1 ha'.2.1 (by rw [ha'.2.2]; omega)
      (fun x hx => by
        obtain ⟨q, hq, hqx⟩ := List.getElem_of_mem hx
        have hq' : q < new.length := by omega
        obtain ⟨x', h1, h2⟩ := hl.get q _ (List.getElem?_eq_getElem hq')
        rw [List.getElem?_eq_getElem hq, hqx] at h1; cases h1
        exact one'_of h2 (allOne_get b3 q _ (List.getElem?_eq_getElem hq'))) hex
    have H1 := H.bump hg hroot hp (k + n * size) (m * size) r2 r3 r4 (fun n1 k1 h1 h2 => r5 n1 (by omega)) (fun n1 h1 => by
      by_cases hin : a.off + n * size ≤ n1 ∧ n1 < a.off + n * size + xs.length
      · have := r6 (n1 - (a.off + n * size)) (xs[n1 - (a.off + n * size)]'(by omega)) (List.getElem?_eq_getElem (by omega))
        rw [show a.off + n * size + (n1 - (a.off + n * size)) = n1 by omega] at this
        rw [this]; rfl
      · rw [r5 n1 hin]; exact h1)
    have S := H.stamp _ _ _ _ _ _ hg
    have hnx := H.freshNone
    have hx : Ext ρ (upd ρ st.nx (b, o, en)) := ext_upd _ hnx
    have hclsne : cls ≠ st.nx := by
      obtain ⟨q, hq⟩ := S.1
      have := (H.dom _ _ hq).1
      omega
    refine ⟨w', r1, upd ρ st.nx (b, o, en), ?_, ?_, ?_⟩
    · exact relV_sl.2 ⟨a, cap, fun _ => ⟨⟨b, o, en, upd_same _ _ _, ab, as, ao⟩, b, o, en, upd_same _ _ _, hroom'⟩, hfit, hcap, rfl⟩
    · refine H1.add (i := st.nx) (n' := st.nx + 1) hnx (Nat.lt_succ_self _) (Nat.le_refl _) (p := (b, o, en)) (H1.dom i _ hp).2 ?_ S.1 (fun k1 v1 s1 h1 => ?_) (fun j ob q hj hq hqb => ?_)
      · refine ⟨b, o, en, upd_same _ _ _, by omega, fun k1 g1 g2 => ?_⟩
        obtain ⟨n1, hn1, hf1, x1, hx1, hv1⟩ := hcells k1 (by omega) g2
        refine ⟨n1, hn1, by rw [r4]; exact hf1, ?_⟩
        by_cases hin : k + n * size ≤ k1 ∧ k1 < k + n * size + m * size
        · have hq : k1 - (k + n * size) < new.length := by omega
          obtain ⟨y, hy1, hy2⟩ := hl.get _ _ (List.getElem?_eq_getElem hq)
          have hcell := r6 _ _ hy1
          rw [show a.off + n * size + (k1 - (k + n * size)) = n1 by omega] at hcell
          refine ⟨y, hcell, fun v2 s2 _ hc2 _ => ?_⟩
          rw [get_lay, if_pos ⟨hin.1, by omega⟩, List.getElem?_eq_getElem hq] at hc2
          simp only [Option.map_some, Option.some.injEq, Prod.mk.injEq] at hc2
          rw [← hc2.1]; exact RelV.mono hx _ _ hy2
        · refine ⟨x1, by rw [r5 n1 (by omega)]; exact hx1, fun v2 s2 hh hc2 hvl => ?_⟩
          rw [get_lay, if_neg (by omega)] at hc2
          refine RelV.mono hx _ _ (hv1 v2 s2 (by omega) hc2 ?_)
          obtain ⟨d, l2, h2, k2, u2, hu2, hus⟩ := hvl
          rw [T.get_put_ne _ _ _ hclsne, T.get_put_same] at hu2
          cases hu2
          exact ⟨_, _, _, _, _, hroot, fun s' hs' => hus s' (by rw [get_bump, if_neg hin]; exact hs')⟩
      · rw [get_lay] at h1
        split at h1
        · simp only [Option.map_eq_some_iff] at h1
          obtain ⟨u1, _, hu⟩ := h1; cases hu; exact Nat.lt_succ_self _
        · exact Nat.lt_succ_of_lt (S.2.1 _ _ _ h1)
      · have key : ∀ ob0, st.h.get j = some ob0 → ob0.cls? = ob.cls? → ob.cls? = some cls ∧ q.2.1 = o := by
          intro ob0 hj0 he
          by_cases hji : j = i
          · subst hji
            rw [hg] at hj0; cases hj0
            rw [hp] at hq; cases hq
            exact ⟨he.symm, rfl⟩
          · obtain ⟨c2, hc1, hc2, ho⟩ := H.sep j i _ _ _ _ hj0 hg hji hq hp hqb
            simp only [AO.cls?, Option.some.injEq] at hc2
            subst hc2
            exact ⟨by rw [← he]; exact hc1, ho⟩
        by_cases hjc : j = cls
        · subst hjc
          simp only [T.get_put_same, Option.some.injEq] at hj
          subst hj
          exact key _ hroot rfl
        · simp only [T.get_put_ne _ _ _ hjc] at hj
          exact key _ hj rfl
    · refine ⟨Nat.le_succ _, fun j hj => upd_ne _ _ (by omega), fun j q hj hq => ?_, fun j ob hj hlt => ?_, by omega, r7, r8, r9, fun b2 _ hb2 => r3 b2 (fun e2 => hb2 ⟨i, _, _, hg, hp, e2.symm⟩), fun j ob c2 hj hc2 hlt => ?_⟩
      · by_cases hji : j = st.nx
        · subst hji; rw [upd_same] at hq; cases hq; exact .inr ⟨i, _, _, hg, hp, rfl⟩
        · rw [upd_ne _ _ hji] at hq
          have := (H.dom _ _ hq).1
          omega
      · have hji : j ≠ st.nx := by omega
        simp only [T.get_put_ne _ _ _ hji] at hj
        by_cases hjc : j = cls
        · subst hjc; exact ⟨_, hroot⟩
        · rw [T.get_put_ne _ _ _ hjc] at hj; exact ⟨ob, hj⟩
      · by_cases hji : j = st.nx
        · subst hji
          simp only [T.get_put_same, Option.some.injEq] at hj; subst hj
          exact ⟨i, _, hg, hc2⟩
        · simp only [T.get_put_ne _ _ _ hji] at hj
          by_cases hjc : j = cls
          · subst hjc; rw [T.get_put_same] at hj; cases hj; exact ⟨j, _, hroot, hc2⟩
          · rw [T.get_put_ne _ _ _ hjc] at hj; exact ⟨j, ob, hj, hc2⟩
end
end Go.Proofs.Ytfkfejonlfcgoaa.Ev
