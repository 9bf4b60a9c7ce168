import Derived.Test.YtfkfejonlfcgoaaEvApp2
namespace Go.Proofs.Ytfkfejonlfcgoaa.Ev
open Go Go.RowKit
section
variable {P : Program} {ρ : Rho} {st : St} {w : World}

theorem below_drew_alloc (w : World) (o : Obj) : Below w.heap.size w (w.drew.alloc o) := ((Below.refl _ _).drew).alloc (Nat.le_refl _) _

theorem Below.fr {ρ : Rho} {st : St} {w w' : World} (H : RelH ρ st w) {p : Nat × Int × Nat} (B : Below w.heap.size w w') (hp : w.heap.size ≤ p.1) (ao : AO) (hcl : ∀ c, ao.cls? = some c → c = st.nx) : Fr ρ st w (upd ρ st.nx p) ⟨st.h.put st.nx ao, st.nx + 1⟩ w' :=
  (Fr.refl ρ st w H).fresh (Nat.le_refl _) (Nat.le_succ _) ao hcl B hp

/-- A version, where the append makes a new array. -/
theorem versionA_grows (H : RelH ρ st w) {i k n m size : Nat} {c : Option Nat} {new : List AV} {v : AV} {st' : St} (e : versionA st i k n m size c new = some (v, st'))
    {a : Addr} (ha : 0 < n → At ρ i k a) {xs : List Value} (hl : RelL ρ new xs) (hlen : new.length = m * size) (hc : c = none) (zs : Array Value) (el : TypeId) (cap : Nat) (hcap : n + m ≤ cap) (hzs : zs.size = (cap - (n + m)) * size) :
    ∃ old : List Value, (loadCells a (n * size)).run P w.drew = .ok old.toArray w.drew ∧
      ∃ ρ', RelV ρ' v (.slice (some ⟨w.heap.size, 0, none⟩) (n + m) cap) ∧ RelH ρ' st' (w.drew.alloc (.cells (old.toArray ++ xs.toArray ++ zs) el)) ∧ Fr ρ st w ρ' st' (w.drew.alloc (.cells (old.toArray ++ xs.toArray ++ zs) el)) := by
  unfold versionA at e
  split at e
  case h_2 => cases e
  rename_i cs lo hi cls t hg
  cases hb : (lo.ble k && (k + n * size).ble hi && allOne new) with
  | false => rw [hb] at e; cases e
  | true =>
    rw [hb] at e; simp only [cond_true] at e
    simp only [Bool.and_eq_true, Nat.ble_eq] at hb
    obtain ⟨⟨b1, b2⟩, b3⟩ := hb
    split at e
    case h_2 => cases e
    rename_i c' lo' hi' cl' u hroot
    simp only [Option.some.injEq, Prod.mk.injEq] at e
    obtain ⟨rfl, rfl⟩ := e
    obtain ⟨b, o, en, hp, hen, hcells⟩ := H.obj i _ hg
    have hm1 : (n + m) * size = n * size + m * size := Nat.add_mul _ _ _
    have hm2 : (n + m) * size + (cap - (n + m)) * size = cap * size := by rw [← Nat.add_mul, show n + m + (cap - (n + m)) = cap by omega]
    have hxl := hl.length
    -- the old cells
    have hold : ∀ q, q < n * size → ∃ y, w.drew.cell? (a.add q) = some y := by
      intro q hq
      have hn : 0 < n := by
        rcases Nat.eq_zero_or_pos n with h | h
        · subst h; omega
        · exact h
      obtain ⟨b', o', e', hp', ab, as, ao⟩ := (ha hn).addr q
      rw [hp] at hp'; cases hp'
      obtain ⟨n1, hn1, _, y, hy, _⟩ := hcells (k + q) (by omega) (by omega)
      refine ⟨y, ?_⟩
      have : a.add q = ⟨b, n1, none⟩ := by
        cases hh : a.add q; rw [hh] at ab as ao; simp only at ab as ao; subst ab; subst as; congr 1; omega
      rw [this]; exact hy
    obtain ⟨old, o1, o2, o3⟩ := loaded (P := P) w.drew hold
    have S := H.stamp _ _ _ _ _ _ hg
    have hnx := H.freshNone
    have hclsne : cls ≠ st.nx := by
      obtain ⟨q, hq⟩ := S.1
      have := (H.dom _ _ hq).1
      omega
    have H1 := H.drew.bump (w' := w.drew) hg hroot hp (k + n * size) (m * size) rfl (fun _ _ => rfl) (fun _ => rfl) (fun _ _ _ _ => rfl) (fun _ h => h)
    have htot : (old.toArray ++ xs.toArray ++ zs).size = cap * size := by simp [o1, hxl, hlen, hzs]; omega
    have hx : Ext ρ (upd ρ st.nx (w.heap.size, -(k : Int), k + cap * size)) := ext_upd _ hnx
    refine ⟨old, o2, upd ρ st.nx (w.heap.size, -(k : Int), k + cap * size), ?_, ?_, ?_⟩
    · exact relV_sl.2 ⟨_, cap, fun _ => ⟨⟨_, _, _, upd_same _ _ _, rfl, rfl, (by show ((0 : Nat) : Int) = -(k : Int) + (k : Int); omega)⟩, _, _, _, upd_same _ _ _, Nat.le_refl _⟩, hcap, (fun q hq => by rw [hc] at hq; cases hq), rfl⟩
    · refine H1.new (i := st.nx) (n' := st.nx + 1) hnx (Nat.lt_succ_self _) (Nat.le_refl _) ((Below.refl _ _).alloc (Nat.le_refl _) _) (Nat.le_refl _) (by simp) ?_ ?_
      · refine ⟨w.heap.size, -(k : Int), k + cap * size, upd_same _ _ _, by omega, fun k1 g1 g2 => ?_⟩
        have hk1 : k1 - k < (old.toArray ++ xs.toArray ++ zs).size := by omega
        refine ⟨k1 - k, by omega, by rw [show w.heap.size = w.drew.heap.size from rfl, World.frozen?_alloc_new], (old.toArray ++ xs.toArray ++ zs)[k1 - k], ?_, fun v2 s2 hh hc2 hvl => ?_⟩
        · rw [show w.heap.size = w.drew.heap.size from rfl, World.cell?_alloc_new]; exact Array.getElem?_eq_getElem hk1
        · rw [get_lay] at hc2
          by_cases hin : k + n * size ≤ k1 ∧ k1 < k + n * size + new.length
          · rw [if_pos hin] at hc2
            simp only [Option.map_eq_some_iff] at hc2
            obtain ⟨u1, hu1, hu⟩ := hc2
            obtain ⟨y, hy1, hy2⟩ := hl.get _ _ hu1
            simp only [Prod.mk.injEq] at hu
            rw [← hu.1]
            have e1 : (old.toArray ++ xs.toArray ++ zs)[k1 - k]? = some y := by
              rw [Array.getElem?_append_left (by simp [o1]; omega), Array.getElem?_append_right (by simp [o1]; omega)]
              simp only [List.size_toArray, o1, List.getElem?_toArray]
              rw [show k1 - k - n * size = k1 - (k + n * size) by omega]; exact hy1
            rw [Array.getElem?_eq_getElem hk1] at e1
            rw [Option.some.inj e1]
            exact RelV.mono hx _ _ hy2
          · rw [if_neg hin] at hc2
            have hlt : k1 - k < n * size := by omega
            obtain ⟨n1, hn1, _, y, hy, hyv⟩ := hcells k1 (by omega) (by omega)
            have hn : 0 < n := by
              rcases Nat.eq_zero_or_pos n with h | h
              · subst h; omega
              · exact h
            obtain ⟨b', o', e', hp', ab, as, ao⟩ := (ha hn).addr (k1 - k)
            rw [hp] at hp'; cases hp'
            have ea : a.add (k1 - k) = ⟨b, n1, none⟩ := by
              cases hh : a.add (k1 - k); rw [hh] at ab as ao; simp only at ab as ao; subst ab; subst as; congr 1; omega
            have hoy := o3 (k1 - k) (old[k1 - k]'(by omega)) (List.getElem?_eq_getElem (by omega))
            rw [ea] at hoy
            have e0 : old[k1 - k]'(by omega) = y := Option.some.inj (hoy.symm.trans hy)
            have e1 : (old.toArray ++ xs.toArray ++ zs)[k1 - k] = y := by
              rw [Array.getElem_append_left (by simp [o1]; omega), Array.getElem_append_left (by simp [o1]; omega)]
              simpa using e0
            rw [e1]
            refine RelV.mono hx _ _ (hyv v2 s2 (by omega) hc2 ?_)
            obtain ⟨d, l2, h2, k2, u2, hu2, hus⟩ := hvl
            simp only [T.get_put_ne _ _ _ hclsne, T.get_put_same] at hu2
            cases hu2
            exact ⟨_, _, _, _, _, hroot, fun s' hs' => hus s' (by rw [get_bump, if_neg (by omega)]; exact hs')⟩
      · intro c2 lo2 hi2 cls2 t2 hao
        simp only [AO.cells.injEq] at hao
        obtain ⟨rfl, rfl, rfl, rfl, rfl⟩ := hao
        refine ⟨.inr S.1, fun k1 v1 s1 h1 => ?_, fun k1 s1 h1 => by simp [T.get_leaf] at h1⟩
        rw [get_lay] at h1
        split at h1
        · simp only [Option.map_eq_some_iff] at h1
          obtain ⟨u1, _, hu⟩ := h1; cases hu; exact Nat.lt_succ_self _
        · exact Nat.lt_succ_of_lt (S.2.1 _ _ _ h1)
    · have B := below_drew_alloc w (.cells (old.toArray ++ xs.toArray ++ zs) el)
      refine ⟨Nat.le_succ _, fun j hj => upd_ne _ _ (by omega), fun j q hj hq => ?_, fun j ob hj hlt => ?_, B.size, B.os, B.tape, B.output, fun b2 h2 _ => B.block b2 h2, fun j ob c2 hj hc2 hlt => ?_⟩
      · by_cases hji : j = st.nx
        · subst hji; rw [upd_same] at hq; cases hq; exact .inl (Nat.le_refl _)
        · rw [upd_ne _ _ hji] at hq
          have := (H.dom _ _ hq).1
          omega
      · have hji : j ≠ st.nx := by omega
        simp only [T.get_put_ne _ _ _ hji] at hj
        by_cases hjc : j = cls
        · subst hjc; exact ⟨_, hroot⟩
        · rw [T.get_put_ne _ _ _ hjc] at hj; exact ⟨ob, hj⟩
      · by_cases hji : j = st.nx
        · subst hji
          simp only [T.get_put_same, Option.some.injEq] at hj; subst hj
          exact ⟨i, _, hg, hc2⟩
        · simp only [T.get_put_ne _ _ _ hji] at hj
          by_cases hjc : j = cls
          · subst hjc; rw [T.get_put_same] at hj; cases hj; exact ⟨j, _, hroot, hc2⟩
          · rw [T.get_put_ne _ _ _ hjc] at hj; exact ⟨j, ob, hj, hc2⟩

theorem zeroCells_size (z : Array Value) (n : Nat) : (Builtin.zeroCells z n).size = n * z.size := by unfold Builtin.zeroCells; simp

/-- append. -/
theorem appendA_sound (H : RelH ρ st w) {at' : Array TypeId} {ty sT xT : TypeId} {d : TypeDesc} {zeros : Bool} {s x v : AV} {y z : Value} {st' : St}
    (h0 : at'[0]? = some sT) (h1 : at'[1]? = some xT) (hxT : P.underlying xT = some d) (hzd : if zeros then ∃ k, d = .int k else ∀ k, d ≠ .int k) (hs : RelV ρ s y) (hx : RelV ρ x z)
    (e : appendA P st sT zeros s x = some (v, st')) :
    ∃ r w' ρ', (Builtin.append_ at' ty #[y, z]).run P w = .ok r w' ∧ RelV ρ' v r ∧ RelH ρ' st' w' ∧ Fr ρ st w ρ' st' w' := by
  unfold appendA at e
  split at e
  case h_2 => cases e
  rename_i el hsT
  split at e
  case h_1 => cases e
  rename_i info hi
  split at e
  case h_1 => cases e
  rename_i zv hzz
  split at e
  case h_1 => cases e
  rename_i m new hadd
  cases hb : ((1).ble info.size && info.bytes.ble 65536 && new.length.beq (m * info.size) && zv.cells.size.beq info.size && m.ble 65536) with
  | false => rw [hb] at e; cases e
  | true =>
    rw [hb] at e; simp only [cond_true] at e
    simp only [Bool.and_eq_true, Nat.ble_eq, Nat.beq_eq] at hb
    obtain ⟨⟨⟨⟨b1, b2⟩, b3⟩, b4⟩, b5⟩ := hb
    obtain ⟨arr, hl, F, G⟩ := addedA_sound (P := P) (ty := ty) H h0 h1 hsT hxT hzd hi hzz hx hadd b3 b1 b5 b2
    have harr : arr.toList.length = m * info.size := by rw [hl.length, b3]
    split at e
    · rename_i n c
      have hy := relV_sc.1 hs
      subst hy
      cases hb2 : (n.beq 0 && c.beq 0) with
      | false => rw [hb2] at e; cases e
      | true =>
        rw [hb2] at e; simp only [cond_true] at e
        simp only [Bool.and_eq_true, Nat.beq_eq] at hb2
        obtain ⟨rfl, rfl⟩ := hb2
        cases hm0 : m.beq 0 with
        | true =>
          rw [hm0] at e; simp only [cond_true, Option.some.injEq, Prod.mk.injEq] at e
          obtain ⟨rfl, rfl⟩ := e
          have hm0' : m = 0 := Nat.eq_of_beq_eq_true hm0
          subst hm0'
          exact ⟨_, w, ρ, F none 0 0 w (Nat.le_refl _) rfl, RelV.sc _, H, Fr.refl _ _ _ H⟩
        | false =>
          rw [hm0] at e; simp only [cond_false] at e
          have hm0' : m ≠ 0 := Nat.ne_of_beq_eq_false hm0
          split at e
          case h_2 => cases e
          rename_i ao hao
          simp only [Option.some.injEq, Prod.mk.injEq] at e
          obtain ⟨rfl, rfl⟩ := e
          obtain ⟨cap, g1, g2⟩ := G none 0 0 #[] (by omega) (by omega) (by omega) rfl
          have R := H.drew.row H.freshNone (Nat.lt_succ_self _) (Nat.le_succ _) hao hl (Builtin.zeroCells zv.cells (cap - (0 + m))).toList el
          have ea : (arr.toList ++ (Builtin.zeroCells zv.cells (cap - (0 + m))).toList).toArray = #[] ++ arr ++ Builtin.zeroCells zv.cells (cap - (0 + m)) := by
            apply Array.toList_inj.1; simp
          rw [ea] at R
          have hz2 := zeroCells_size zv.cells (cap - (0 + m))
          have hm2 : m * info.size + (cap - (0 + m)) * info.size = cap * info.size := by rw [← Nat.add_mul, show m + (cap - (0 + m)) = cap by omega]
          rw [Nat.zero_add] at g2
          refine ⟨_, _, _, g2, relV_sl.2 ⟨_, cap, fun _ => ⟨at_upd0, room_upd ?_⟩, by omega, (fun q hq => by cases hq), rfl⟩, (by rw [Nat.zero_add] at R; exact R), Below.fr H (below_drew_alloc _ _) (Nat.le_refl _) ao (rowOf_cls hao)⟩
          simp only [List.length_append, Array.length_toList] at harr ⊢
          rw [Nat.zero_add] at hz2 hm2
          rw [hz2, b4]; omega
    · rename_i i k n zz c
      cases hb2 : ((n + m).ble 65536 && zz.beq info.size) with
      | false => rw [hb2] at e; cases e
      | true =>
        rw [hb2] at e; simp only [cond_true] at e
        simp only [Bool.and_eq_true, Nat.ble_eq, Nat.beq_eq] at hb2
        obtain ⟨d1, rfl⟩ := hb2
        obtain ⟨a, cap, ha, hn, hc, rfl⟩ := relV_sl.1 hs
        cases hm0 : m.beq 0 with
        | true =>
          rw [hm0] at e; simp only [cond_true, Option.some.injEq, Prod.mk.injEq] at e
          obtain ⟨rfl, rfl⟩ := e
          have hm0' : m = 0 := Nat.eq_of_beq_eq_true hm0
          subst hm0'
          have harr0 : arr = #[] := by
            apply Array.toList_inj.1
            exact List.length_eq_zero_iff.1 (by rw [harr]; simp)
          subst harr0
          refine ⟨_, w, ρ, F (some a) n cap w (by omega) rfl, ?_, H, Fr.refl _ _ _ H⟩
          rw [Nat.add_zero]; exact hs
        | false =>
          rw [hm0] at e; simp only [cond_false] at e
          have hm0' : m ≠ 0 := Nat.ne_of_beq_eq_false hm0
          cases hin : mayFit c (n + m) with
          | true =>
            rw [hin] at e; simp only [cond_true] at e
            by_cases hfit : n + m ≤ cap
            · obtain ⟨w', r1, ρ', r2, r3, r4⟩ := versionA_fits (P := P) H e (ha (by omega)).1 (ha (by omega)).2 hc hl b3 hfit
              exact ⟨_, w', ρ', F (some a) n cap w' hfit r1, r2, r3, r4⟩
            · have hcn : c = none := by
                cases c with
                | none => rfl
                | some c0 =>
                  have := Nat.le_of_ble_eq_true hin
                  have := hc c0 rfl
                  omega
              obtain ⟨old, o1, _⟩ := versionA_grows (P := P) H e (fun h => (ha (by omega)).1) hl b3 hcn (Builtin.zeroCells zv.cells 0) el (n + m) (Nat.le_refl _) (by rw [zeroCells_size]; simp)
              obtain ⟨cap', g1, g2⟩ := G (some a) n cap old.toArray (by omega) (by omega) (by omega) (by rw [firstCells_sl]; exact o1)
              obtain ⟨old', o1', ρ', r2, r3, r4⟩ := versionA_grows (P := P) H e (fun h => (ha (by omega)).1) hl b3 hcn (Builtin.zeroCells zv.cells (cap' - (n + m))) el cap' g1 (by rw [zeroCells_size, b4])
              have : old' = old := by
                have := (Result.ok.inj (o1'.symm.trans o1)).1
                simpa using this
              subst this
              have ea : arr.toList.toArray = arr := by simp
              rw [ea] at r3 r4
              exact ⟨_, _, ρ', g2, r2, r3, r4⟩
          | false =>
            rw [hin] at e; simp only [cond_false] at e
            cases c with
            | none => cases hin
            | some c0 =>
              have hc0 := hc c0 rfl
              have hlt : ¬ n + m ≤ c0 := by
                intro h
                have h2 : (n + m).ble c0 = true := by rw [Nat.ble_eq]; exact h
                simp only [mayFit, h2] at hin
                cases hin
              split at e
              case h_2 => cases e
              rename_i oldA hold
              split at e
              case h_2 => cases e
              rename_i ao hao
              simp only [Option.some.injEq, Prod.mk.injEq] at e
              obtain ⟨rfl, rfl⟩ := e
              have hload : ∃ ys : List Value, RelL ρ oldA ys ∧ ys.length = n * info.size ∧ (loadCells a (n * info.size)).run P w.drew = .ok ys.toArray w.drew := by
                by_cases hn0 : n = 0
                · subst hn0
                  simp only [Nat.zero_mul, rdCells, Option.some.injEq] at hold
                  subst hold
                  exact ⟨[], RelL.nil_iff.2 rfl, by simp, by simp only [Nat.zero_mul]; rfl⟩
                · obtain ⟨ys, y1, y2, y3⟩ := run_loadCells_rel (P := P) H.drew hold (ha (by omega)).1
                  exact ⟨ys, y1, y2, y3⟩
              obtain ⟨ys, y1, y2, y3⟩ := hload
              obtain ⟨cap', g1, g2⟩ := G (some a) n cap ys.toArray (by omega) (by omega) (by omega) (by rw [firstCells_sl]; exact y3)
              have R := H.drew.row H.freshNone (Nat.lt_succ_self _) (Nat.le_succ _) hao (y1.append hl) (Builtin.zeroCells zv.cells (cap' - (n + m))).toList el
              have ea : (ys ++ arr.toList ++ (Builtin.zeroCells zv.cells (cap' - (n + m))).toList).toArray = ys.toArray ++ arr ++ Builtin.zeroCells zv.cells (cap' - (n + m)) := by
                apply Array.toList_inj.1; simp
              rw [ea] at R
              have hz2 := zeroCells_size zv.cells (cap' - (n + m))
              have hm2 : n * info.size + m * info.size + (cap' - (n + m)) * info.size = cap' * info.size := by rw [← Nat.add_mul, ← Nat.add_mul, show n + m + (cap' - (n + m)) = cap' by omega]
              refine ⟨_, _, _, g2, relV_sl.2 ⟨_, cap', fun _ => ⟨at_upd0, room_upd ?_⟩, g1, (fun q hq => by cases hq), rfl⟩, R, Below.fr H (below_drew_alloc _ _) (Nat.le_refl _) ao (rowOf_cls hao)⟩
              simp only [List.length_append, Array.length_toList] at harr ⊢
              rw [hz2, b4]; omega
    · cases e
end
end Go.Proofs.Ytfkfejonlfcgoaa.Ev
