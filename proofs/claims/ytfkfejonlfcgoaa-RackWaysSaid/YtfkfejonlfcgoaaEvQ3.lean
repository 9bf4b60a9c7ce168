import Derived.Test.YtfkfejonlfcgoaaEvQ2
namespace Go.Proofs.Ytfkfejonlfcgoaa.Ev
open Go Go.RowKit
section
variable {P : Program} {ρ : Rho} {ev : Operand → Option AV} {f : Operand → Value} {st : St} {w : World}

def RelOpt (ρ : Rho) : Option AV → Option Value → Prop
  | none, x => x = none
  | some v, x => ∃ y, RelV ρ v y ∧ x = some y
theorem optX_sound (E : EvOk ρ ev f) {o : Option Operand} {r : Option AV} (e : optX ev o = some r) : RelOpt ρ r (o.map f) := by
  unfold optX at e
  cases o with
  | none => simp only [Option.some.injEq] at e; subst e; rfl
  | some x =>
    simp only at e
    split at e
    case h_2 => cases e
    rename_i v hv
    cases e
    exact ⟨_, E x v hv, rfl⟩

theorem bnd_sound {v : AV} {x : Value} {y0 y n : Nat} (hx : RelV ρ v x) (e : bnd v y0 = some n) (hy : y0 ≤ y) (code : BoundsCode) (w : World) :
    (Instr.sliceBound x y code).run P w = .ok n w ∧ n ≤ y0 := by
  unfold bnd at e
  split at e
  case h_2 => cases e
  rename_i kd m
  cases hb : m.ble y0 with
  | false => rw [hb] at e; cases e
  | true =>
    rw [hb] at e; simp only [cond_true, Option.some.injEq] at e; subst e
    have hle := Nat.le_of_ble_eq_true hb
    rw [relV_sc.1 hx]
    refine ⟨?_, hle⟩
    unfold Instr.sliceBound
    simp only [asIntOf, pure_bind]
    rw [if_pos ⟨Int.natCast_nonneg m, by show ((m : Nat) : Int) ≤ y; omega⟩]
    rfl

theorem sliceA_sound {isSl : Bool} {len cap : Nat} {c : Option Nat} {lo hi mx : Option AV} {lo' hi' mx' : Option Value} {l h : Nat} {c' : Option Nat}
    (h1 : RelOpt ρ lo lo') (h2 : RelOpt ρ hi hi') (h3 : RelOpt ρ mx mx') (e : sliceA len c lo hi mx = some (l, h, c')) (hc : ∀ q, c = some q → cap = q) (hl : len ≤ cap) (w : World) :
    ∃ m, (Instr.sliceBounds isSl len cap lo' hi' mx').run P w = .ok (l, h, m) w ∧ l ≤ h ∧ h ≤ m ∧ m ≤ cap ∧ (∀ q, c' = some q → m - l = q) := by
  have htop : c.getD len ≤ cap := by
    cases c with
    | none => exact hl
    | some q => rw [hc q rfl]; exact Nat.le_refl _
  unfold sliceA at e
  simp only at e
  split at e
  · rename_i mv
    split at e
    case h_1 => cases e
    rename_i m hm
    split at e
    case h_1 => cases e
    rename_i hv
    split at e
    case h_1 => cases e
    rename_i hh hhb
    split at e
    case h_1 => cases e
    rename_i ll hlb
    simp only [Option.some.injEq, Prod.mk.injEq] at e
    obtain ⟨rfl, rfl, rfl⟩ := e
    obtain ⟨y3, r3, rfl⟩ := h3
    obtain ⟨y2, r2, rfl⟩ := h2
    have s3 := fun code => (bnd_sound (P := P) r3 hm htop code w).1
    have s2 := fun code => (bnd_sound (P := P) r2 hhb (Nat.le_refl _) code w).1
    have k3 := (bnd_sound (P := P) r3 hm htop .index w).2
    have k2 := (bnd_sound (P := P) r2 hhb (Nat.le_refl _) .index w).2
    cases lo with
    | none =>
      have e1 : lo' = none := h1
      subst e1
      simp only [bndO, Option.some.injEq] at hlb; subst hlb
      refine ⟨m, ?_, Nat.zero_le _, k2, by omega, fun q hq => by cases hq; rfl⟩
      unfold Instr.sliceBounds
      simp [s3, s2]
    | some v =>
      obtain ⟨y1, r1, rfl⟩ := h1
      have s1 := fun code => (bnd_sound (P := P) r1 hlb (Nat.le_refl _) code w).1
      have k1 := (bnd_sound (P := P) r1 hlb (Nat.le_refl _) .index w).2
      refine ⟨m, ?_, k1, k2, by omega, fun q hq => by cases hq; rfl⟩
      unfold Instr.sliceBounds
      simp [s3, s2, s1]
  · split at e
    case h_1 => cases e
    rename_i hh hhb
    split at e
    case h_1 => cases e
    rename_i ll hlb
    simp only [Option.some.injEq, Prod.mk.injEq] at e
    obtain ⟨rfl, rfl, rfl⟩ := e
    have e3 : mx' = none := h3
    subst e3
    have last : ∀ q, (match c with | some c => some (c - ll) | none => none : Option Nat) = some q → cap - ll = q := by
      intro q hq
      cases c with
      | none => cases hq
      | some c0 => simp only [Option.some.injEq] at hq; rw [hc c0 rfl]; exact hq
    cases hi with
    | none =>
      have e2 : hi' = none := h2
      subst e2
      simp only [bndO, Option.some.injEq] at hhb; subst hhb
      cases lo with
      | none =>
        have e1 : lo' = none := h1
        subst e1
        simp only [bndO, Option.some.injEq] at hlb; subst hlb
        refine ⟨cap, ?_, Nat.zero_le _, hl, Nat.le_refl _, last⟩
        unfold Instr.sliceBounds
        simp
      | some v =>
        obtain ⟨y1, r1, rfl⟩ := h1
        have s1 := fun code => (bnd_sound (P := P) r1 hlb (Nat.le_refl _) code w).1
        have k1 := (bnd_sound (P := P) r1 hlb (Nat.le_refl _) .index w).2
        refine ⟨cap, ?_, k1, hl, Nat.le_refl _, last⟩
        unfold Instr.sliceBounds
        simp [s1]
    | some hv =>
      obtain ⟨y2, r2, rfl⟩ := h2
      have s2 := fun code => (bnd_sound (P := P) r2 hhb htop code w).1
      have k2 := (bnd_sound (P := P) r2 hhb htop .index w).2
      cases lo with
      | none =>
        have e1 : lo' = none := h1
        subst e1
        simp only [bndO, Option.some.injEq] at hlb; subst hlb
        refine ⟨cap, ?_, Nat.zero_le _, by omega, Nat.le_refl _, last⟩
        unfold Instr.sliceBounds
        simp [s2]
      | some v =>
        obtain ⟨y1, r1, rfl⟩ := h1
        have s1 := fun code => (bnd_sound (P := P) r1 hlb (Nat.le_refl _) code w).1
        have k1 := (bnd_sound (P := P) r1 hlb (Nat.le_refl _) .index w).2
        refine ⟨cap, ?_, k1, by omega, Nat.le_refl _, last⟩
        unfold Instr.sliceBounds
        simp [s2, s1]

theorem unA_sound {o : Option AV} {r x : Option Value} (h : RelOpt ρ o x) (e : unA o = some r) : x = r := by
  cases o with
  | none => simp only [unA, Option.some.injEq] at e; subst e; exact h
  | some v =>
    obtain ⟨y, hy, rfl⟩ := h
    cases v with
    | sc v => simp only [unA, Option.some.injEq] at e; subst e; rw [relV_sc.1 hy]
    | _ => simp [unA] at e

theorem sliceQ_sound (H : RelH ρ st w) {t : TypeId} {u v : AV} {x : Value} {lo hi mx : Option AV} {lo' hi' mx' : Option Value} (hx : RelV ρ u x)
    (h1 : RelOpt ρ lo lo') (h2 : RelOpt ρ hi hi') (h3 : RelOpt ρ mx mx') (e : sliceQ P st.h t u lo hi mx = some v) : ∃ y, (Instr.sliceAt t x lo' hi' mx').run P w = .ok y w ∧ RelV ρ v y := by
  unfold sliceQ at e
  split at e
  · split at e
    case h_2 => cases e
    rename_i a b c ha hb hc
    split at e
    case h_2 => cases e
    rename_i r hr
    cases e
    rw [relV_sc.1 hx, unA_sound h1 ha, unA_sound h2 hb, unA_sound h3 hc]
    exact ⟨r, semP_run _ _ hr w, RelV.sc r⟩
  · rename_i i k n z c
    split at e
    case h_2 => cases e
    rename_i el hd
    split at e
    case h_2 => cases e
    rename_i size hs
    split at e
    case h_2 => cases e
    rename_i l h c' hsl
    cases hbz : size.beq z with
    | false => rw [hbz] at e; cases e
    | true =>
    rw [hbz] at e; simp only [cond_true, Option.some.injEq] at e; subst e
    have hz : size = z := Nat.eq_of_beq_eq_true hbz
    subst hz
    obtain ⟨a, cap, ha, hn, hcc, rfl⟩ := relV_sl.1 hx
    obtain ⟨m, hr, g1, g2, g3, g4⟩ := sliceA_sound (P := P) (isSl := true) h1 h2 h3 hsl hcc hn w
    refine ⟨.slice (some (if m = l then a else a.add (l * size))) (h - l) (m - l), ?_, relV_sl.2 ⟨_, m - l, fun hp => ?_, by omega, g4, rfl⟩⟩
    · unfold Instr.sliceAt
      rw [Sem.run_bind, run_under hd]; simp only [Result.andThen_ok]
      unfold Instr.slice
      rw [Sem.run_bind, run_under hd]; simp only [Result.andThen_ok]
      rw [Sem.run_bind, hr]; simp only [Result.andThen_ok]
      rw [Sem.run_bind, semP_run _ _ hs w]; simp only [Result.andThen_ok]
      by_cases hml : m = l
      · simp [hml]
      · simp [hml]
    · rw [if_neg (by omega)]
      obtain ⟨g5, b1, o1, e1, g6, g7⟩ := ha (by omega)
      refine ⟨g5.addr _, b1, o1, e1, g6, ?_⟩
      have : l * size + (m - l) * size = m * size := by rw [← Nat.add_mul, show l + (m - l) = m by omega]
      have : m * size ≤ cap * size := Nat.mul_le_mul_right _ g3
      omega
  · rename_i i k
    split at e
    case h_2 => cases e
    rename_i n el hd
    split at e
    case h_2 => cases e
    rename_i size hs
    split at e
    case h_2 => cases e
    rename_i l h c' hsl
    split at e
    case h_2 => cases e
    rename_i cc blo bhi bcl bt hob
    cases hbz : (blo.ble k && (k + n * size).ble bhi) with
    | false => rw [hbz] at e; cases e
    | true =>
    rw [hbz] at e; simp only [cond_true, Option.some.injEq] at e; subst e
    simp only [Bool.and_eq_true, Nat.ble_eq] at hbz
    obtain ⟨b1, o1, e1, g6, g7, _⟩ := H.obj _ _ hob
    obtain ⟨a, ha, rfl⟩ := relV_ptr.1 hx
    obtain ⟨m, hr, g1, g2, g3, g4⟩ := sliceA_sound (P := P) (isSl := false) h1 h2 h3 hsl (cap := n) (fun q hq => by cases hq; rfl) (Nat.le_refl _) w
    refine ⟨.slice (some (if m = l then a else a.add (l * size))) (h - l) (m - l), ?_, relV_sl.2 ⟨_, m - l, fun hp => ?_, by omega, g4, rfl⟩⟩
    · unfold Instr.sliceAt
      rw [Sem.run_bind, run_under hd]; simp only [Result.andThen_ok]
      rw [Sem.run_bind, sureAddr_run]; simp only [Result.andThen_ok]
      rw [Sem.run_bind, hr]; simp only [Result.andThen_ok]
      rw [Sem.run_bind, semP_run _ _ hs w]; rfl
    · rw [if_neg (by omega)]
      refine ⟨ha.addr _, b1, o1, e1, g6, ?_⟩
      have : l * size + (m - l) * size = m * size := by rw [← Nat.add_mul, show l + (m - l) = m by omega]
      have : m * size ≤ n * size := Nat.mul_le_mul_right _ g3
      omega
  · cases e

theorem buildA_sound {t : TypeId} {vs : List (Nat × AV)} {v : AV} {ps : Array (Nat × Value)} (hp : RelP ρ vs ps.toList) (e : buildA P t vs = some v) :
    ∃ y, (Instr.build t ps).run P w = .ok y w ∧ RelV ρ v y := by
  unfold buildA at e
  split at e
  case h_1 => cases e
  rename_i z hz
  split at e
  · rename_i fs hd
    split at e
    case h_2 => cases e
    rename_i places hpl
    split at e
    case h_2 => cases e
    rename_i cs hcs
    cases e
    obtain ⟨zs, g1, g2⟩ := fillA_sound hp (RelL.scs z.cells.toList) hcs
    refine ⟨.agg zs, ?_, relV_agg.2 ⟨zs.toList, g2, by simp⟩⟩
    unfold Instr.build
    rw [Sem.run_bind, semP_run _ _ hz w]; simp only [Result.andThen_ok]
    rw [Sem.run_bind, run_under hd]; simp only [Result.andThen_ok]
    rw [Sem.run_bind, semP_run _ _ hpl w]; simp only [Result.andThen_ok]
    rw [g1]; rfl
  · rename_i n el hd
    split at e
    case h_2 => cases e
    rename_i size hs
    split at e
    case h_2 => cases e
    rename_i cs hcs
    cases e
    obtain ⟨zs, g1, g2⟩ := fillA_sound hp (RelL.scs z.cells.toList) hcs
    refine ⟨.agg zs, ?_, relV_agg.2 ⟨zs.toList, g2, by simp⟩⟩
    unfold Instr.build
    rw [Sem.run_bind, semP_run _ _ hz w]; simp only [Result.andThen_ok]
    rw [Sem.run_bind, run_under hd]; simp only [Result.andThen_ok]
    rw [Sem.run_bind, semP_run _ _ hs w]; simp only [Result.andThen_ok]
    rw [g1]; rfl
  · cases e

/-! Maps. -/
theorem RelE.length : ∀ {l : List (Value × AV × Nat)} {es : List MapEntry}, RelE ρ l es → es.length = l.length
  | [], _, h => by rw [show _ = [] from h]; rfl
  | _ :: _, _, ⟨_, _, _, _, _, h4, h5⟩ => by rw [h5]; simp [RelE.length h4]

/-- findAsking by semP. -/
theorem findAsk_sound {kt : TypeId} {k : Value} : ∀ {l : List (Value × AV × Nat)} {es : List MapEntry} {i : Nat} {r : Option (Nat × Value × AV × Nat)}, RelE ρ l es → findA P kt k l i = some r →
    (Instr.findAsking kt k es i).run P w = .ok (r.map fun q => (q.1, ((es[q.1 - i]?).map (·.val)).getD undef)) w ∧
    (∀ j k' v b, r = some (j, k', v, b) → i ≤ j ∧ ∃ e, es[j - i]? = some e ∧ RelV ρ v e.val ∧ e.key = k' ∧ e.born = b ∧ l[j - i]? = some (k', v, b))
  | [], _, i, r, h, e => by
    rw [show _ = [] from h]
    simp only [findA, Option.some.injEq] at e; subst e
    exact ⟨rfl, fun _ _ _ _ h => by cases h⟩
  | (k', v, b) :: l, _, i, r, ⟨en, es', h1, h2, h3, h4, h5⟩, e => by
    subst h5
    simp only [findA] at e
    split at e
    · rename_i heq
      simp only [Option.some.injEq] at e; subst e
      refine ⟨?_, fun j k2 v2 b2 h => ?_⟩
      · unfold Instr.findAsking
        rw [Sem.run_bind, h2, semP_run _ _ heq w]
        simp
      · simp only [Option.some.injEq, Prod.mk.injEq] at h
        obtain ⟨rfl, rfl, rfl, rfl⟩ := h
        exact ⟨Nat.le_refl _, en, by simp, h1, h2, h3, by simp⟩
    · rename_i heq
      obtain ⟨g1, g2⟩ := findAsk_sound h4 e
      refine ⟨?_, fun j k2 v2 b2 h => ?_⟩
      · unfold Instr.findAsking
        rw [Sem.run_bind, h2, semP_run _ _ heq w]
        simp only [Result.andThen_ok, Bool.false_eq_true, if_false]
        rw [g1]
        cases r with
        | none => rfl
        | some q =>
          obtain ⟨j, k2, v2, b2⟩ := q
          have := (g2 j k2 v2 b2 rfl).1
          simp only [Option.map_some]
          rw [show j - i = (j - (i + 1)) + 1 by omega, List.getElem?_cons_succ]
      · obtain ⟨a1, e2, a2, a3⟩ := g2 j k2 v2 b2 h
        refine ⟨by omega, e2, ?_, a3.1, a3.2.1, a3.2.2.1, ?_⟩
        · rw [show j - i = (j - (i + 1)) + 1 by omega, List.getElem?_cons_succ]; exact a2
        · rw [show j - i = (j - (i + 1)) + 1 by omega, List.getElem?_cons_succ]; exact a3.2.2.2
    · cases e
theorem sameNow_run {kt : TypeId} {d : TypeDesc} (hd : P.underlying kt = some d) {a b : Value} {r : Bool} (e : Instr.sameNow d a b = some r) : (Op.equal kt a b).run P w = .ok r w := by
  have main : ∀ n, (Op.equalIn (n + 1) kt a b).run P w = .ok r w := by
    intro n
    unfold Instr.sameNow at e
    split at e
    · split at e
      · rename_i hk
        simp only [Option.some.injEq] at e; subst e; subst hk
        simp [Op.equalIn, run_under hd]
      · cases e
    · simp only [Option.some.injEq] at e; subst e
      simp [Op.equalIn, run_under hd]
    · simp only [Option.some.injEq] at e; subst e
      simp [Op.equalIn, run_under hd]
    · cases e
  exact main 9999

theorem findNow_run {kt : TypeId} {d : TypeDesc} (hd : P.underlying kt = some d) {k : Value} : ∀ {es : List MapEntry} {i : Nat} {r : Option (Nat × Value)}, Instr.findNow d k es i = some r → (Instr.findAsking kt k es i).run P w = .ok r w
  | [], i, r, e => by simp only [Instr.findNow, Option.some.injEq] at e; subst e; rfl
  | en :: es, i, r, e => by
    simp only [Instr.findNow] at e
    split at e
    · rename_i h
      simp only [Option.some.injEq] at e; subst e
      unfold Instr.findAsking
      rw [Sem.run_bind, sameNow_run hd h]; simp
    · rename_i h
      unfold Instr.findAsking
      rw [Sem.run_bind, sameNow_run hd h]
      simp only [Result.andThen_ok, Bool.false_eq_true, if_false]
      exact findNow_run hd e
    · cases e

theorem findKey_sound {kt : TypeId} {k : Value} {l : List (Value × AV × Nat)} {es : List MapEntry} {r : Option (Nat × Value × AV × Nat)} (h : RelE ρ l es) (e : findKeyA P kt k l = some r) :
    (Instr.findKey kt k es).run P w = .ok (r.map fun q => (q.1, ((es[q.1]?).map (·.val)).getD undef)) w ∧
    (∀ j k' v b, r = some (j, k', v, b) → ∃ e, es[j]? = some e ∧ RelV ρ v e.val ∧ e.key = k' ∧ e.born = b) := by
  unfold findKeyA at e
  split at e
  case h_2 => cases e
  rename_i d hd
  obtain ⟨g1, g2⟩ := findAsk_sound (w := w) h e
  refine ⟨?_, fun j k' v b hr => ?_⟩
  · unfold Instr.findKey
    rw [Sem.run_bind, run_under hd]
    simp only [Result.andThen_ok]
    have g1' : (Instr.findAsking kt k es).run P w = .ok (r.map fun q => (q.1, ((es[q.1]?).map (·.val)).getD undef)) w := by simpa using g1
    split
    · rename_i r' hr'
      have := findNow_run (w := w) hd hr'
      have e2 := g1'.symm.trans this
      simp only [Sem.run_pure]
      exact e2.symm
    · exact g1'
  · obtain ⟨_, e2, a1, a2, a3, a4, _⟩ := g2 j k' v b hr
    exact ⟨e2, by simpa using a1, a2, a3, a4⟩

theorem run_getObj_map {b : Nat} {es : Array MapEntry} {clock : Nat} (h : w.heap[b]? = some (.map es clock)) : (getObj b).run P w = .ok (.map es clock) w := by
  simp [getObj, Sem.run, h]

theorem entsA_sound (H : RelH ρ st w) {u : AV} {l : List (Value × AV × Nat)} {x : Value} (hx : RelV ρ u x) (e : entsA st.h u = some l) :
    ∃ es : Array MapEntry, RelE ρ l es.toList ∧ ((x = .map none ∧ es = #[]) ∨ ∃ b clock, x = .map (some b) ∧ w.heap[b]? = some (.map es clock)) := by
  unfold entsA at e
  split at e
  · cases e; exact ⟨#[], rfl, .inl ⟨relV_sc.1 hx, rfl⟩⟩
  · rename_i i
    split at e
    case h_2 => cases e
    rename_i es clock hg
    cases e
    obtain ⟨b, h1, es', h2, h3⟩ := H.obj i _ hg
    obtain ⟨b', h1', rfl⟩ := relV_mp.1 hx
    rw [h1] at h1'; cases h1'
    exact ⟨es', h3, .inr ⟨b, clock, rfl, h2⟩⟩
  · cases e

theorem lookupA_sound (H : RelH ρ st w) {t : TypeId} {u k v : AV} {ok : Bool} {x y : Value} (hx : RelV ρ u x) (hy : RelV ρ k y) (e : lookupA P st.h t u k ok = some v) :
    ∃ z, (Instr.lookup t x y ok).run P w = .ok z w ∧ RelV ρ v z := by
  unfold lookupA at e
  split at e
  case h_1 => cases e
  rename_i kv hkv
  split at e
  case h_2 => cases e
  rename_i kt et hd
  split at e
  case h_1 => cases e
  rename_i l hl
  split at e
  case h_1 => cases e
  rename_i hchk
  obtain ⟨es, hE, hrun⟩ := entsA_sound H hx hl
  have hyk := RelV.toV _ _ _ hy hkv
  subst hyk
  have hemp : es.isEmpty = l.isEmpty := by
    have := hE.length
    cases l <;> simp_all [Array.isEmpty]
  have step : ∀ (r : Option (Nat × Value)), (Instr.findKey kt y es.toList).run P w = .ok r w → (Instr.lookup t x y ok).run P w =
      ((match r with
        | some (_, v) => pure (v, true)
        | none => do pure (← zeroValue et, false)) >>= fun (p : Value × Bool) => pure (if ok then Value.tuple #[p.1, .bool p.2] else p.1) : Sem Value).run P w := by
    intro r hr
    have hc := semP_run _ _ hchk w
    rw [← hemp] at hc
    unfold Instr.lookup
    rcases hrun with ⟨rfl, rfl⟩ | ⟨b, clock, rfl, hb⟩
    · simp only [Sem.run_bind, run_under hd, Result.andThen_ok, Sem.run_pure, hc, hr]
      cases r <;> simp <;> (cases (Sem.run P (zeroValue et) w) <;> rfl)
    · simp only [Sem.run_bind, run_under hd, Result.andThen_ok, run_getObj_map hb, Sem.run_pure, hc, hr]
      cases r <;> simp <;> (cases (Sem.run P (zeroValue et) w) <;> rfl)
  split at e
  · rename_i j k' u' b hf
    simp only [Option.some.injEq] at e
    obtain ⟨g1, g2⟩ := findKey_sound (w := w) hE hf
    obtain ⟨en, a1, a2, a3, a4⟩ := g2 _ _ _ _ rfl
    rw [step _ g1]
    simp only [Option.map_some, a1, Option.getD_some]
    cases ok with
    | true => simp only [cond_true] at e; subst e; exact ⟨.tuple #[en.val, .bool true], rfl, relV_tup.2 ⟨[en.val, .bool true], RelL.cons a2 (RelL.cons (RelV.sc _) (RelL.nil_iff.2 rfl)), rfl⟩⟩
    | false => simp only [cond_false] at e; subst e; exact ⟨en.val, rfl, a2⟩
  · rename_i hf
    split at e
    case h_2 => cases e
    rename_i z hz
    simp only [Option.some.injEq] at e
    obtain ⟨g1, _⟩ := findKey_sound (w := w) hE hf
    rw [step _ g1]
    simp only [Option.map_none]
    rw [Sem.run_bind, Sem.run_bind, semP_run _ _ hz w]
    cases ok with
    | true => simp only [cond_true] at e; subst e; exact ⟨.tuple #[z, .bool false], rfl, relV_tup.2 ⟨[z, .bool false], RelL.cons (RelV.sc _) (RelL.cons (RelV.sc _) (RelL.nil_iff.2 rfl)), rfl⟩⟩
    | false => simp only [cond_false] at e; subst e; exact ⟨z, rfl, RelV.sc z⟩
  · cases e
end
end Go.Proofs.Ytfkfejonlfcgoaa.Ev
