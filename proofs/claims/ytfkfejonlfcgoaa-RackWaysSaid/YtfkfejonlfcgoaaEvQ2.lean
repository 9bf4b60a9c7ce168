import Derived.Test.YtfkfejonlfcgoaaEvQ1
namespace Go.Proofs.Ytfkfejonlfcgoaa.Ev
open Go Go.RowKit
section
variable {P : Program} {ρ : Rho} {ev : Operand → Option AV} {f : Operand → Value} {st : St} {w : World}

theorem run_under {t : TypeId} {d : TypeDesc} (h : P.underlying t = some d) (w : World) : (underlying t).run P w = .ok d w := by
  simp [underlying, h]

theorem run_loadCells_rel (H : RelH ρ st w) {i k n : Nat} {l : List AV} (e : rdCells st.h i k n = some l) {a : Addr} (ha : At ρ i k a) :
    ∃ xs : List Value, RelL ρ l xs ∧ xs.length = n ∧ (loadCells a n).run P w = .ok xs.toArray w := by
  obtain ⟨xs, h1, h2, h3⟩ := H.rds e ha
  refine ⟨xs, h1, h2, ?_⟩
  rw [← h2]; exact run_loadCells_list (P := P) w a xs h3

theorem loadA_sound (H : RelH ρ st w) {t : TypeId} {i k : Nat} {v : AV} (e : loadA P st.h t i k = some v) {a : Addr} (ha : At ρ i k a) :
    ∃ y, (loadVar t a).run P w = .ok y w ∧ RelV ρ v y := by
  unfold loadA at e
  split at e
  · rename_i hagg
    split at e
    case h_2 => cases e
    rename_i n hn
    split at e
    case h_2 => cases e
    rename_i l hl
    cases e
    obtain ⟨xs, h1, _, h3⟩ := run_loadCells_rel (P := P) H hl ha
    refine ⟨.agg xs.toArray, ?_, relV_agg.2 ⟨xs, h1, rfl⟩⟩
    unfold loadVar
    rw [Sem.run_bind, semP_run _ _ hagg w]
    simp only [Result.andThen_ok, if_true]
    rw [Sem.run_bind, semP_run _ _ hn w]
    simp only [Result.andThen_ok]
    rw [Sem.run_bind, h3]; rfl
  · rename_i hagg
    obtain ⟨x, hx, hr⟩ := H.rd e ha
    refine ⟨x, ?_, hr⟩
    unfold loadVar
    rw [Sem.run_bind, semP_run _ _ hagg w]
    simp only [Result.andThen_ok, Bool.false_eq_true, if_false]
    rw [run_load, hx]
  · cases e

theorem sureAddr_run {a : Addr} (w : World) : (Instr.sureAddr (.pointer (some a))).run P w = .ok a w := rfl

theorem loadAt_sound (H : RelH ρ st w) {t : TypeId} {i k : Nat} {v : AV} (e : loadA P st.h t i k = some v) {x : Value} (hx : RelV ρ (.ptr i k) x) :
    ∃ y, (Instr.loadAt t x).run P w = .ok y w ∧ RelV ρ v y := by
  obtain ⟨a, ha, rfl⟩ := relV_ptr.1 hx
  obtain ⟨y, h1, h2⟩ := loadA_sound H e ha
  refine ⟨y, ?_, h2⟩
  unfold Instr.loadAt
  rw [Sem.run_bind, sureAddr_run]
  exact h1

theorem pickA_sound (E : EvOk ρ ev f) {c a b : Operand} {v : AV} (e : pickA ev c a b = some v) :
    ∃ y, (do pure (Next.value (if ← asBool (f c) then f a else f b)) : Sem Next).run P w = .ok (.value y) w ∧ RelV ρ v y := by
  unfold pickA at e
  split at e
  · rename_i hc
    have := relV_sc.1 (E c _ hc)
    exact ⟨f a, by rw [this]; rfl, E a v e⟩
  · rename_i hc
    have := relV_sc.1 (E c _ hc)
    exact ⟨f b, by rw [this]; rfl, E b v e⟩
  · cases e

theorem nilCheckA_sound {o : Oper} {x : Operand} (ho : o.op = .nilCheck x) {u v : AV} (e : nilCheckA u = some v) (hx : RelV ρ u (f x)) :
    ∃ y, (execOp f o).run P w = .ok (.value y) w ∧ RelV ρ v y := by
  refine ⟨f x, ?_, ?_⟩
  · unfold execOp
    rw [ho]
    simp only
    generalize f x = y at hx
    unfold nilCheckA at e
    split at e
    · obtain ⟨a, _, rfl⟩ := relV_ptr.1 hx; rfl
    · obtain ⟨a, _, _, _, rfl⟩ := relV_fn.1 hx; rfl
    · rw [relV_sc.1 hx]; rfl
    · obtain ⟨a, _, rfl⟩ := relV_ifc.1 hx; rfl
    · rw [relV_sc.1 hx]; rfl
    · cases e
  · unfold nilCheckA at e
    split at e <;> first | (cases e; exact hx) | cases e

theorem scF_some {r : Option Value} {v : AV} (e : scF r = some v) : ∃ x, r = some x ∧ v = .sc x := by
  cases r with
  | none => cases e
  | some x =>
    unfold scF at e
    cases hf : forced x with
    | false => simp only [hf, cond_false] at e; cases e
    | true => simp only [hf, cond_true] at e; cases e; exact ⟨x, rfl, rfl⟩
theorem scF_run {s : Sem Value} {v : AV} (e : scF (semP P s) = some v) : ∃ y, s.run P w = .ok y w ∧ RelV ρ v y := by
  obtain ⟨x, h1, rfl⟩ := scF_some e
  exact ⟨x, semP_run _ _ h1 w, RelV.sc x⟩

theorem unOpA_sound {op : UnOp} {u v : AV} {x : Value} (hx : RelV ρ u x) (e : unOpA P op u = some v) : ∃ y, (Op.unary op x).run P w = .ok y w ∧ RelV ρ v y := by
  unfold unOpA at e
  split at e
  · rw [relV_sc.1 hx]; exact scF_run e
  · cases e
theorem convertA_sound {s d : TypeId} {u v : AV} {x : Value} (hx : RelV ρ u x) (e : convertA P s d u = some v) : ∃ y, (convert s d x).run P w = .ok y w ∧ RelV ρ v y := by
  unfold convertA at e
  split at e
  · rw [relV_sc.1 hx]; exact scF_run e
  · rename_i k m r
    obtain ⟨z, h1, h2, rfl⟩ := relV_res.1 hx
    split at e
    case h_2 => cases e
    rename_i k1 hs hd
    cases e
    refine ⟨.int .i64 z, ?_, relV_res.2 ⟨z, h1, h2, rfl⟩⟩
    have hw : IntKind.i64.wrap (z : Int) = (z : Int) := by rw [IntKind.wrap_i64]; omega
    simp [convert, underlying, hs, hd, Conv.intToInt, hw]
  · cases e
theorem mkIfc_rel {t : TypeId} {u : AV} {x : Value} (hx : RelV ρ u x) : RelV ρ (mkIfc t u) (.iface t x) := by
  unfold mkIfc
  split
  · rw [relV_sc.1 hx]; exact RelV.sc _
  · exact relV_ifc.2 ⟨x, hx, rfl⟩
theorem makeIfcA_sound {t : TypeId} {u v : AV} {x : Value} (hx : RelV ρ u x) (e : makeIfcA P t u = some v) : ∃ y, (Instr.makeInterface t x).run P w = .ok y w ∧ RelV ρ v y := by
  unfold makeIfcA at e
  split at e
  · cases e
  · rename_i d hni hd
    cases e
    refine ⟨.iface t x, ?_, mkIfc_rel hx⟩
    unfold Instr.makeInterface
    rw [Sem.run_bind, run_under hd]
    simp only [Result.andThen_ok]
    cases d <;> first | (exact absurd rfl (hni _)) | rfl
  · cases e

section eqs
variable {t : TypeId} (d : Nat)
theorem eqd_ptr {e : TypeId} (hu : P.underlying t = some (.pointer e)) (a : Addr) : (Op.equalIn (d + 1) t (.pointer (some a)) (.pointer none)).run P w = .ok false w ∧ (Op.equalIn (d + 1) t (.pointer none) (.pointer (some a))).run P w = .ok false w := by
  constructor <;> simp [Op.equalIn, run_under hu]
theorem eqd_sl {e : TypeId} (hu : P.underlying t = some (.slice e)) (a : Addr) (n c m k : Nat) : (Op.equalIn (d + 1) t (.slice (some a) n c) (.slice none m k)).run P w = .ok false w ∧ (Op.equalIn (d + 1) t (.slice none m k) (.slice (some a) n c)).run P w = .ok false w := by
  constructor <;> simp [Op.equalIn, run_under hu]
theorem eqd_mp {e e' : TypeId} (hu : P.underlying t = some (.map e e')) (a : Nat) : (Op.equalIn (d + 1) t (.map (some a)) (.map none)).run P w = .ok false w ∧ (Op.equalIn (d + 1) t (.map none) (.map (some a))).run P w = .ok false w := by
  constructor <;> simp [Op.equalIn, run_under hu]
theorem eqd_fn {a b : Array TypeId} {c : Bool} (hu : P.underlying t = some (.func a b c)) (g : Fn) (l m : Array Value) : (Op.equalIn (d + 1) t (.func g l m) .nilFunc).run P w = .ok false w ∧ (Op.equalIn (d + 1) t .nilFunc (.func g l m)).run P w = .ok false w := by
  constructor <;> simp [Op.equalIn, run_under hu]
theorem eqd_ifc {a : Array (String × TypeId)} (hu : P.underlying t = some (.interface a)) (s : TypeId) (x : Value) : (Op.equalIn (d + 1) t (.iface s x) .nilIface).run P w = .ok false w ∧ (Op.equalIn (d + 1) t .nilIface (.iface s x)).run P w = .ok false w := by
  constructor <;> simp [Op.equalIn, run_under hu]
end eqs

theorem eqNil_main {op : BinOp} {t : TypeId} {x y r : Value} (p q : Operand) (hg : eqGuard op t p q x y = pure ()) (h1 : op = .eql → binOp .eql t x y = (do pure (.bool (← Op.equal t x y))))
    (h2 : op = .neq → binOp .neq t x y = (do pure (.bool (!(← Op.equal t x y))))) (h3 : (Op.equal t x y).run P w = .ok false w) (h4 : unlike op = some r) :
    (do eqGuard op t p q x y; binOp op t x y : Sem Value).run P w = .ok r w := by
  unfold unlike at h4
  split at h4
  · cases h4
    rw [hg, h1 rfl]
    simp [h3]
  · cases h4
    rw [hg, h2 rfl]
    simp [h3]
  · cases h4
theorem guard_pure {op : BinOp} {t : TypeId} {x y : Value} (p q : Operand) (h : (match x, y with | .nilIface, .nilIface | .agg _, .agg _ => false | _, _ => true) = true) : eqGuard op t p q x y = pure () := by
  unfold eqGuard
  split at h
  · cases h
  · cases h
  · rename_i h1 h2
    have key : ∀ (A : Sem Unit) (B : Array Value → Array Value → Sem Unit), (match x, y with | .nilIface, .nilIface => A | .agg a, .agg b => B a b | _, _ => pure ()) = pure () := by
      intro A B
      split
      · exact (h1 rfl rfl).elim
      · exact (h2 _ _ rfl rfl).elim
      · rfl
    generalize hop : (!(match op with | .eql => true | .neq => true | _ => false)) = c
    cases c with
    | true => rw [if_pos rfl]
    | false => rw [if_neg (by simp)]; exact key _ _

theorem eqNil_sound {op : BinOp} {t : TypeId} {a : AV} {x y r : Value} (hx : RelV ρ a x) (e : eqNil P op t a y = some r) (p q : Operand) :
    (do eqGuard op t p q x y; binOp op t x y : Sem Value).run P w = .ok r w ∧ (do eqGuard op t p q y x; binOp op t y x : Sem Value).run P w = .ok r w := by
  unfold eqNil at e
  split at e
  · rename_i e1 hu
    obtain ⟨a, _, rfl⟩ := relV_ptr.1 hx
    exact ⟨eqNil_main p q (guard_pure p q rfl) (fun _ => rfl) (fun _ => rfl) (eqd_ptr 9999 hu a).1 e, eqNil_main p q (guard_pure p q rfl) (fun _ => rfl) (fun _ => rfl) (eqd_ptr 9999 hu a).2 e⟩
  · rename_i e1 hu
    obtain ⟨a, cap, _, _, _, rfl⟩ := relV_sl.1 hx
    exact ⟨eqNil_main p q (guard_pure p q rfl) (fun _ => rfl) (fun _ => rfl) (eqd_sl 9999 hu a _ _ _ _).1 e, eqNil_main p q (guard_pure p q rfl) (fun _ => rfl) (fun _ => rfl) (eqd_sl 9999 hu a _ _ _ _).2 e⟩
  · rename_i e1 hu
    obtain ⟨a, _, rfl⟩ := relV_mp.1 hx
    exact ⟨eqNil_main p q (guard_pure p q rfl) (fun _ => rfl) (fun _ => rfl) (eqd_mp 9999 hu a).1 e, eqNil_main p q (guard_pure p q rfl) (fun _ => rfl) (fun _ => rfl) (eqd_mp 9999 hu a).2 e⟩
  · rename_i e1 hu
    obtain ⟨a, _, _, _, rfl⟩ := relV_fn.1 hx
    exact ⟨eqNil_main p q (guard_pure p q rfl) (fun _ => rfl) (fun _ => rfl) (eqd_fn 9999 hu _ _ _).1 e, eqNil_main p q (guard_pure p q rfl) (fun _ => rfl) (fun _ => rfl) (eqd_fn 9999 hu _ _ _).2 e⟩
  · rename_i e1 hu
    obtain ⟨a, _, rfl⟩ := relV_ifc.1 hx
    exact ⟨eqNil_main p q (guard_pure p q rfl) (fun _ => rfl) (fun _ => rfl) (eqd_ifc 9999 hu _ _).1 e, eqNil_main p q (guard_pure p q rfl) (fun _ => rfl) (fun _ => rfl) (eqd_ifc 9999 hu _ _).2 e⟩
  · cases e

theorem evBin0_sound {op : BinOp} {t : TypeId} {p q : Operand} {a b v : AV} {x y : Value} (hx : RelV ρ a x) (hy : RelV ρ b y) (e : evBin0 P op t p q a b = some v) :
    ∃ z, (do eqGuard op t p q x y; binOp op t x y : Sem Value).run P w = .ok z w ∧ RelV ρ v z := by
  unfold evBin0 at e
  split at e
  · rename_i u u' h1 h2
    rw [RelV.toV _ _ _ hx h1, RelV.toV _ _ _ hy h2]
    refine scF_run (s := do eqGuard op t p q u u'; binOp op t u u') ?_
    unfold scF
    exact e
  · rename_i u h1 h2
    split at e
    case h_2 => cases e
    rename_i r hr
    cases e
    rw [RelV.toV _ _ _ hy h2]
    exact ⟨r, (eqNil_sound hx hr p q).1, RelV.sc r⟩
  · rename_i u h1 h2
    split at e
    case h_2 => cases e
    rename_i r hr
    cases e
    rw [RelV.toV _ _ _ hx h1]
    exact ⟨r, (eqNil_sound hy hr p q).2, RelV.sc r⟩
  · cases e

theorem evBin_sound {op : BinOp} {t : TypeId} {p q : Operand} {a b v : AV} {x y : Value} (hx : RelV ρ a x) (hy : RelV ρ b y) (e : evBin P op t p q a b = some v) :
    ∃ z, (do eqGuard op t p q x y; binOp op t x y : Sem Value).run P w = .ok z w ∧ RelV ρ v z := by
  unfold evBin at e
  split at e
  · rename_i k m r
    obtain ⟨z, h1, h2, rfl⟩ := relV_res.1 hx
    unfold resRem at e
    split at e
    case h_2 => cases e
    rename_i j c
    split at e
    case h_2 => cases e
    have hy' := relV_sc.1 hy
    subst hy'
    cases hb : (decide (j = k) && Nat.blt 0 c && Nat.blt c 32768 && (m % c).beq 0 && (r % c).beq (r % c)) with
    | false => rw [hb] at e; cases e
    | true =>
      rw [hb] at e
      simp only [cond_true, Option.some.injEq] at e
      subst e
      simp only [Bool.and_eq_true, decide_eq_true_eq, Nat.blt_eq, Nat.beq_eq] at hb
      obtain ⟨⟨⟨⟨rfl, h3⟩, h4⟩, h5⟩, _⟩ := hb
      refine ⟨.int j ((z % c : Nat) : Int), ?_, ?_⟩
      · rw [Sem.run_bind, guard_pure p q rfl]
        simp only [Sem.run_pure, Result.andThen_ok, Int.ofNat_eq_natCast]
        have hc : ¬ c = 0 := by omega
        have ht : (z : Int).tmod (c : Int) = ((z % c : Nat) : Int) := by rw [Int.tmod_eq_emod_of_nonneg (by omega)]; exact (Int.natCast_emod z c).symm
        simp [binOp, Op.intDiv, hc, ht]
      · have : r % c = z % c := by rw [← h2]; exact Nat.mod_mod_of_dvd z (Nat.dvd_of_mod_eq_zero h5)
        rw [this]; exact RelV.sc _
  · exact evBin0_sound hx hy e

theorem partA_sound {t : TypeId} {cs : List AV} {off : Nat} {v : AV} {xs : Array Value} (h : RelL ρ cs xs.toList) (e : partA P t cs off = some v) :
    ∃ y, (part t xs off).run P w = .ok y w ∧ RelV ρ v y := by
  unfold partA at e
  split at e
  · rename_i hagg
    split at e
    case h_2 => cases e
    rename_i n hn
    cases hb : (off + n).ble cs.length with
    | false => rw [hb] at e; cases e
    | true =>
      rw [hb] at e; simp only [cond_true, Option.some.injEq] at e
      subst e
      refine ⟨.agg (xs.extract off (off + n)), ?_, relV_agg.2 ⟨(xs.toList.drop off).take n, (h.drop off).take n, ?_⟩⟩
      · unfold part
        rw [Sem.run_bind, semP_run _ _ hagg w]
        simp only [Result.andThen_ok, if_true]
        rw [Sem.run_bind, semP_run _ _ hn w]
        rfl
      · congr 1
        apply Array.toList_inj.1
        simp
  · rename_i hagg
    unfold nth at e
    obtain ⟨y, hy, hr⟩ := h.get off v e
    refine ⟨y, ?_, hr⟩
    unfold part
    rw [Sem.run_bind, semP_run _ _ hagg w]
    have : xs[off]? = some y := by simpa using hy
    simp [this]
  · cases e

theorem aggOf_sound {u : AV} {cs : List AV} {x : Value} (hx : RelV ρ u x) (e : aggOf u = some cs) : ∃ xs : Array Value, x = .agg xs ∧ RelL ρ cs xs.toList := by
  unfold aggOf at e
  split at e
  · cases e; obtain ⟨xs, h1, rfl⟩ := relV_agg.1 hx; exact ⟨_, rfl, by simpa using h1⟩
  · cases e; rw [relV_sc.1 hx]; exact ⟨_, rfl, RelL.scs _⟩
  · cases e

theorem fieldA_sound {t : TypeId} {u v : AV} {n : Nat} {x : Value} (hx : RelV ρ u x) (e : fieldA P t u n = some v) : ∃ y, (Instr.field t x n).run P w = .ok y w ∧ RelV ρ v y := by
  unfold fieldA at e
  split at e
  case h_2 => cases e
  rename_i cs hcs
  split at e
  case h_2 => cases e
  rename_i fs hfs
  split at e
  case h_2 => cases e
  rename_i fd hfd
  obtain ⟨xs, rfl, hl⟩ := aggOf_sound hx hcs
  obtain ⟨y, h1, h2⟩ := partA_sound (P := P) (w := w) hl e
  refine ⟨y, ?_, h2⟩
  unfold Instr.field
  rw [Sem.run_bind, run_under hfs]
  simp only [Result.andThen_ok, hfd]
  rw [Sem.run_bind]
  simp only [asAgg, Sem.run_pure, Result.andThen_ok]
  exact h1

theorem natOf_sound {u : AV} {m : Nat} {x : Value} (hx : RelV ρ u x) (e : natOf u = some m) : ∃ k, x = .int k (m : Int) := by
  unfold natOf at e
  split at e
  · cases e; rw [relV_sc.1 hx]; exact ⟨_, rfl⟩
  · cases e

theorem fieldAddrA_sound {s : TypeId} {u v : AV} {n : Nat} {x : Value} (hx : RelV ρ u x) (e : fieldAddrA P s u n = some v) : ∃ y, (Instr.fieldAt s x n).run P w = .ok y w ∧ RelV ρ v y := by
  unfold fieldAddrA at e
  split at e
  case h_2 => cases e
  rename_i i k
  split at e
  case h_2 => cases e
  rename_i fs hfs
  split at e
  case h_2 => cases e
  rename_i fd hfd
  split at e
  case h_2 => cases e
  rename_i sz hsz
  cases e
  obtain ⟨a, ha, rfl⟩ := relV_ptr.1 hx
  refine ⟨.pointer (some (a.add fd.offset)), ?_, relV_ptr.2 ⟨_, ha.addr _, rfl⟩⟩
  unfold Instr.fieldAt
  rw [Sem.run_bind, run_under hfs]
  simp only [Result.andThen_ok, hfd]
  rw [Sem.run_bind, sureAddr_run]
  simp only [Result.andThen_ok]
  rw [Sem.run_bind]
  unfold fieldPlace
  rw [Sem.run_bind, semP_run _ _ hsz w]
  simp

theorem indexAddrA_sound {t : TypeId} {u i v : AV} {x ix : Value} (hx : RelV ρ u x) (hi : RelV ρ i ix) (e : indexAddrA P t u i = some v) : ∃ y, (Instr.indexAt t x ix).run P w = .ok y w ∧ RelV ρ v y := by
  unfold indexAddrA at e
  split at e
  case h_1 => cases e
  rename_i m hm
  obtain ⟨kd, rfl⟩ := natOf_sound hi hm
  split at e
  · rename_i j k
    split at e
    case h_2 => cases e
    rename_i n el hd
    split at e
    case h_2 => cases e
    rename_i size hs
    cases hb : m.blt n with
    | false => rw [hb] at e; cases e
    | true =>
      rw [hb] at e; simp only [cond_true, Option.some.injEq] at e; subst e
      have hlt : m < n := by simpa [Nat.blt_eq] using hb
      obtain ⟨a, ha, rfl⟩ := relV_ptr.1 hx
      refine ⟨.pointer (some (a.add (m * size))), ?_, relV_ptr.2 ⟨_, ha.addr _, rfl⟩⟩
      unfold Instr.indexAt
      simp [asIntOf, run_under hd, Instr.sureAddr, semP_run _ _ hs w, hlt]
  · rename_i j k n z c
    split at e
    case h_2 => cases e
    rename_i el hd
    split at e
    case h_2 => cases e
    rename_i size hs
    cases hb : m.blt n with
    | false => rw [hb] at e; cases e
    | true =>
      rw [hb] at e; simp only [cond_true, Option.some.injEq] at e; subst e
      have hlt : m < n := by simpa [Nat.blt_eq] using hb
      obtain ⟨a, cap, ha, hn, _, rfl⟩ := relV_sl.1 hx
      refine ⟨.pointer (some (a.add (m * size))), ?_, relV_ptr.2 ⟨_, (ha (by omega)).1.addr _, rfl⟩⟩
      unfold Instr.indexAt
      simp [asIntOf, run_under hd, semP_run _ _ hs w, hlt]
  · cases e

theorem indexA_sound {t : TypeId} {u i v : AV} {x ix : Value} (hx : RelV ρ u x) (hi : RelV ρ i ix) (e : indexA P t u i = some v) : ∃ y, (Instr.index t x ix).run P w = .ok y w ∧ RelV ρ v y := by
  unfold indexA at e
  split at e
  · rename_i cs
    split at e
    case h_1 => cases e
    rename_i m hm
    obtain ⟨kd, rfl⟩ := natOf_sound hi hm
    split at e
    case h_2 => cases e
    rename_i n el hd
    split at e
    case h_2 => cases e
    rename_i size hs
    cases hb : m.blt n with
    | false => rw [hb] at e; cases e
    | true =>
      rw [hb] at e; simp only [cond_true] at e
      have hlt : m < n := by simpa [Nat.blt_eq] using hb
      obtain ⟨xs, h1, rfl⟩ := relV_agg.1 hx
      obtain ⟨y, h2, h3⟩ := partA_sound (P := P) (w := w) (xs := xs.toArray) (by simpa using h1) e
      refine ⟨y, ?_, h3⟩
      unfold Instr.index
      simp [asIntOf, run_under hd, semP_run _ _ hs w, hlt, h2]
  · split at e
    · rw [relV_sc.1 hx, relV_sc.1 hi]; exact scF_run e
    · cases e
  · cases e

theorem extractA_sound {n : Nat} {u v : AV} {x : Value} (hx : RelV ρ u x) (e : extractA u n = some v) : ∃ y, (Instr.extract x n).run P w = .ok y w ∧ RelV ρ v y := by
  unfold extractA at e
  split at e
  · unfold nth at e
    obtain ⟨xs, h1, rfl⟩ := relV_tup.1 hx
    obtain ⟨y, hy, hr⟩ := h1.get n v e
    exact ⟨y, by simp [Instr.extract, hy], hr⟩
  · split at e
    · rename_i y hy
      cases e
      rw [relV_sc.1 hx]
      exact ⟨y, by simp [Instr.extract, hy], RelV.sc y⟩
    · cases e
  · cases e

theorem dynA_sound {u v : AV} {t : TypeId} {x : Value} (hx : RelV ρ u x) (e : dynA u = some (t, v)) : ∃ y, x = .iface t y ∧ RelV ρ v y := by
  unfold dynA at e
  split at e
  · cases e; obtain ⟨y, h1, rfl⟩ := relV_ifc.1 hx; exact ⟨y, rfl, h1⟩
  · cases e; rw [relV_sc.1 hx]; exact ⟨_, rfl, RelV.sc _⟩
  · cases e

theorem typeAssertA_sound {s t : TypeId} {ok : Bool} {u v : AV} {x : Value} (hx : RelV ρ u x) (e : typeAssertA P u t ok = some v) : ∃ y, (Instr.typeAssert x s t ok).run P w = .ok y w ∧ RelV ρ v y := by
  unfold typeAssertA at e
  split at e
  case h_1 =>
    cases hb : (isNilI u && ok) with
    | false => rw [hb] at e; cases e
    | true =>
      rw [hb] at e
      simp only [cond_true] at e
      rw [Bool.and_eq_true] at hb
      have hu : u = .sc .nilIface := by
        have h1 := hb.1
        unfold isNilI at h1
        split at h1
        · rfl
        · cases h1
      subst hu
      rw [relV_sc.1 hx]
      split at e
      case h_2 => cases e
      rename_i d z hd hz
      cases e
      refine ⟨.tuple #[z, .bool false], ?_, relV_tup.2 ⟨[z, .bool false], RelL.cons (RelV.sc _) (RelL.cons (RelV.sc _) (RelL.nil_iff.2 rfl)), rfl⟩⟩
      unfold Instr.typeAssert
      rw [Sem.run_bind, run_under hd]
      simp only [Result.andThen_ok]
      cases d <;> simp [hb.2, semP_run _ _ hz w]
  rename_i dt dv hd
  obtain ⟨y, rfl, hy⟩ := dynA_sound hx hd
  split at e
  · cases e
  · cases e
  · rename_i d hni hu
    unfold Instr.typeAssert
    rw [Sem.run_bind, run_under hu]
    simp only [Result.andThen_ok]
    have hd' : ∀ ms, d ≠ .interface ms := fun ms h => hni ms h
    cases hb : dt.beq t with
    | true =>
      rw [hb] at e; simp only [cond_true, Option.some.injEq] at e
      have : dt = t := Nat.eq_of_beq_eq_true hb
      subst this
      cases ok with
      | true => subst e; refine ⟨.tuple #[y, .bool true], ?_, relV_tup.2 ⟨[y, .bool true], RelL.cons hy (RelL.cons (RelV.sc _) (RelL.nil_iff.2 rfl)), rfl⟩⟩; cases d <;> first | (exact absurd rfl (hd' _)) | simp
      | false => subst e; refine ⟨y, ?_, hy⟩; cases d <;> first | (exact absurd rfl (hd' _)) | simp
    | false =>
      rw [hb] at e; simp only [cond_false] at e
      have hne : ¬ dt = t := Nat.ne_of_beq_eq_false hb
      cases ok with
      | false => cases e
      | true =>
        simp only [cond_true] at e
        split at e
        case h_2 => cases e
        rename_i z hz
        cases e
        refine ⟨.tuple #[z, .bool false], ?_, relV_tup.2 ⟨[z, .bool false], RelL.cons (RelV.sc _) (RelL.cons (RelV.sc _) (RelL.nil_iff.2 rfl)), rfl⟩⟩
        cases d <;> first | (exact absurd rfl (hd' _)) | simp [hne, semP_run _ _ hz w]
end
end Go.Proofs.Ytfkfejonlfcgoaa.Ev
