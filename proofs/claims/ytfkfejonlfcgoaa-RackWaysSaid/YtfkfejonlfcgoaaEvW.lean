import Derived.Test.YtfkfejonlfcgoaaEvApp3
namespace Go.Proofs.Ytfkfejonlfcgoaa.Ev
open Go Go.RowKit
section
variable {P : Program} {ρ : Rho} {st : St} {w : World}

/-- An operation gives v and the state st'. -/
def OpOk (P : Program) (o : Oper) (a : Act) (w : World) (ρ : Rho) (st : St) (v : AV) (st' : St) : Prop :=
  ∀ (K : Act → World → Prop) (Q : Exit → Act → World → Prop), (∀ y ρ' w', RelV ρ' v y → RelH ρ' st' w' → Fr ρ st w ρ' st' w' → K (a.put o.dst y) w') → o.wp P a w K Q

theorem OpOk.value {o : Oper} {a : Act} {v : AV} {st' : St} {y : Value} {w' : World} {ρ' : Rho} (h : (execOp a.eval o).run P w = .ok (.value y) w') (hv : RelV ρ' v y) (H' : RelH ρ' st' w') (F : Fr ρ st w ρ' st' w') : OpOk P o a w ρ st v st' := by
  intro K Q hK
  unfold Oper.wp; rw [h]
  exact hK y ρ' w' hv H' F
theorem OpOk.skip {o : Oper} {a : Act} {st' : St} {w' : World} {ρ' : Rho} (h : (execOp a.eval o).run P w = .ok .skip w') (H' : RelH ρ' st' w') (F : Fr ρ st w ρ' st' w') : OpOk P o a w ρ st (.sc undef) st' := by
  intro K Q hK
  unfold Oper.wp; rw [h]
  exact hK undef ρ' w' (RelV.sc _) H' F

theorem storeA_sound (H : RelH ρ st w) {t : TypeId} {a v : AV} {x y : Value} (hx : RelV ρ a x) (hy : RelV ρ v y) {st' : St} (e : storeA P st t a v = some st') :
    ∃ w', (Instr.storeAt t x y).run P w = .ok () w' ∧ RelH ρ st' w' ∧ Fr ρ st w ρ st' w' := by
  unfold storeA at e
  split at e
  case h_2 => cases e
  rename_i i k
  split at e
  case h_2 => cases e
  rename_i n hn
  simp only at e
  cases hb : v.cells.length.beq n with
  | false => rw [hb] at e; cases e
  | true =>
    rw [hb] at e; simp only [cond_true] at e
    have hl := hy.cells
    obtain ⟨a, ha, rfl⟩ := relV_ptr.1 hx
    obtain ⟨w', r1, r2, r3⟩ := RelH.wrs H e ha hl P 0 a (by unfold Addr.add; rw [if_pos rfl])
    refine ⟨w', ?_, r2, r3⟩
    have hlen := hl.length
    rw [Nat.eq_of_beq_eq_true hb] at hlen
    simp only [Array.length_toList] at hlen
    unfold Instr.storeAt
    rw [Sem.run_bind, sureAddr_run]; simp only [Result.andThen_ok]
    unfold storeVar
    rw [Sem.run_bind, semP_run _ _ hn w]; simp only [Result.andThen_ok]
    rw [if_neg (by omega)]
    exact r1

/-- A map's entries anew. -/
theorem RelH.setMap (H : RelH ρ st w) {i : Nat} {es es2 : List (Value × AV × Nat)} {cl cl2 : Nat} (hg : st.h.get i = some (.map es cl)) {b : Nat} (hp : ρ i = some (b, 0, 0)) {es' : Array MapEntry} (hw : w.heap[b]? = some (.map es' cl))
    {es2' : Array MapEntry} (hE : RelE ρ es2 es2'.toList) :
    (∀ (k : Sem Unit), (setObj b (.map es2' cl2) >>= fun _ => k).run P w = k.run P { w with heap := w.heap.setIfInBounds b (.map es2' cl2) }) ∧ (setObj b (.map es2' cl2)).run P w = .ok () { w with heap := w.heap.setIfInBounds b (.map es2' cl2) } ∧
    RelH ρ ⟨st.h.put i (.map es2 cl2), st.nx⟩ { w with heap := w.heap.setIfInBounds b (.map es2' cl2) } ∧ Fr ρ st w ρ ⟨st.h.put i (.map es2 cl2), st.nx⟩ { w with heap := w.heap.setIfInBounds b (.map es2' cl2) } := by
  have hrun : (setObj b (.map es2' cl2)).run P w = .ok () { w with heap := w.heap.setIfInBounds b (.map es2' cl2) } := by simp [setObj, Sem.run, hw]
  have hblt : b < w.heap.size := (H.dom _ _ hp).2
  have hother : ∀ b2, b2 ≠ b → (w.heap.setIfInBounds b (.map es2' cl2))[b2]? = w.heap[b2]? := fun b2 h => Array.getElem?_setIfInBounds_ne (fun e => h e.symm)
  refine ⟨fun k => by rw [Sem.run_bind, hrun]; rfl, hrun, ⟨fun j o hj => ?_, fun j p hj => ?_, fun j k oj ok p q hj hk hjk h1 h2 h3 => ?_, fun j c lo hi cls t hj => ?_, H.pos⟩, ?_⟩
  · by_cases hji : j = i
    · subst hji
      simp only [T.get_put_same, Option.some.injEq] at hj; subst hj
      exact ⟨b, hp, es2', by simp [hblt], hE⟩
    · simp only [T.get_put_ne _ _ _ hji] at hj
      refine (H.obj j o hj).mono (Ext.refl _) (fun p hpj => hother _ (fun e => ?_)) (fun cl' k s _ => ?_)
      · obtain ⟨c, hc, hc2, _⟩ := H.sep j i _ _ _ _ hj hg hji hpj hp e
        simp [AO.cls?] at hc2
      · rintro ⟨d, l2, h2, k2, u, hu, hus⟩
        by_cases hci : cl' = i
        · subst hci; rw [T.get_put_same] at hu; cases hu
        · rw [T.get_put_ne _ _ _ hci] at hu; exact ⟨d, l2, h2, k2, u, hu, hus⟩
  · have := H.dom j p hj; exact ⟨this.1, by simpa using this.2⟩
  · have get : ∀ m om, (st.h.put i (.map es2 cl2)).get m = some om → ∃ om0, st.h.get m = some om0 ∧ om0.cls? = om.cls? := by
      intro m om hm
      by_cases hmi : m = i
      · subst hmi; rw [T.get_put_same] at hm; cases hm; exact ⟨_, hg, rfl⟩
      · rw [T.get_put_ne _ _ _ hmi] at hm; exact ⟨_, hm, rfl⟩
    obtain ⟨oj0, hj0, ej⟩ := get j oj hj
    obtain ⟨ok0, hk0, ek⟩ := get k ok hk
    rw [← ej, ← ek]
    exact H.sep j k _ _ _ _ hj0 hk0 hjk h1 h2 h3
  · by_cases hji : j = i
    · subst hji; simp only [T.get_put_same] at hj; cases hj
    · simp only [T.get_put_ne _ _ _ hji] at hj
      exact H.stamp _ _ _ _ _ _ hj
  · refine ⟨Nat.le_refl _, fun _ _ => rfl, fun j p h1 h2 => absurd (H.dom j p h2).1 (by omega), fun j o hj _ => ?_, by simp, rfl, rfl, rfl, fun b2 _ hb2 => hother b2 (fun e => hb2 ⟨i, _, _, hg, hp, e.symm⟩), fun j o c hj hc _ => ?_⟩
    · by_cases hji : j = i
      · subst hji; exact ⟨_, hg⟩
      · simp only [T.get_put_ne _ _ _ hji] at hj; exact ⟨o, hj⟩
    · by_cases hji : j = i
      · subst hji; simp only [T.get_put_same, Option.some.injEq] at hj; subst hj; cases hc
      · simp only [T.get_put_ne _ _ _ hji] at hj; exact ⟨j, o, hj, hc⟩

theorem setEnt_rel {key : Value} {v : AV} {y : Value} (hv : RelV ρ v y) (f : MapEntry → MapEntry) : ∀ {j : Nat} {l : List (Value × AV × Nat)} {es : List MapEntry} {e : MapEntry}, RelE ρ l es → es[j]? = some e →
    (f e).key = key → (f e).val = y → (f e).born = e.born → RelE ρ (setEnt key v j l) (es.modify j f)
  | _, [], es, e, h, he, _, _, _ => by rw [show es = [] from h] at he; simp at he
  | 0, (k, u, b) :: l, _, e, ⟨en, es', h1, h2, h3, h4, h5⟩, he, e1, e2, e3 => by
    subst h5
    simp at he; subst he
    exact ⟨f en, es', by rw [e2]; exact hv, e1, by rw [e3]; exact h3, h4, rfl⟩
  | j + 1, (k, u, b) :: l, _, e, ⟨en, es', h1, h2, h3, h4, h5⟩, he, e1, e2, e3 => by
    subst h5
    exact ⟨en, es'.modify j f, h1, h2, h3, setEnt_rel hv f h4 (by simpa using he) e1 e2 e3, rfl⟩
theorem RelE.snoc {k : Value} {v : AV} {b : Nat} {e : MapEntry} (h1 : RelV ρ v e.val) (h2 : e.key = k) (h3 : e.born = b) : ∀ {l : List (Value × AV × Nat)} {es : List MapEntry}, RelE ρ l es → RelE ρ (l ++ [(k, v, b)]) (es ++ [e])
  | [], es, h => by rw [show es = [] from h]; exact ⟨e, [], h1, h2, h3, rfl, rfl⟩
  | (_, _, _) :: _, _, ⟨en, es', g1, g2, g3, g4, g5⟩ => by subst g5; exact ⟨en, es' ++ [e], g1, g2, g3, RelE.snoc h1 h2 h3 g4, rfl⟩

theorem mapOf (H : RelH ρ st w) {i : Nat} {es : List (Value × AV × Nat)} {cl : Nat} {x : Value} (hx : RelV ρ (.mp i) x) (hg : st.h.get i = some (.map es cl)) :
    ∃ b es', x = .map (some b) ∧ ρ i = some (b, 0, 0) ∧ w.heap[b]? = some (.map es' cl) ∧ RelE ρ es es'.toList := by
  obtain ⟨b, h1, es', h2, h3⟩ := H.obj i _ hg
  obtain ⟨b', h1', rfl⟩ := relV_mp.1 hx
  rw [h1] at h1'; cases h1'
  exact ⟨b, es', rfl, h1, h2, h3⟩

theorem evMapUpdate_sound (H : RelH ρ st w) {t : TypeId} {m k v : AV} {x y z : Value} (hx : RelV ρ m x) (hy : RelV ρ k y) (hz : RelV ρ v z) {st' : St} (e : evMapUpdate P st t m k v = some st') :
    ∃ w', (Instr.mapUpdate t x y z).run P w = .ok () w' ∧ RelH ρ st' w' ∧ Fr ρ st w ρ st' w' := by
  unfold evMapUpdate at e
  split at e
  case h_2 => cases e
  rename_i i kv kt et hkv hd
  split at e
  case h_2 => cases e
  rename_i es clock hg
  have hyk := RelV.toV _ _ _ hy hkv
  subst hyk
  obtain ⟨b, es', rfl, hp, hw, hE⟩ := mapOf H hx hg
  split at e
  · rename_i u j k' v' b' hchk hf
    split at e
    case h_2 => cases e
    rename_i key hkey
    simp only [Option.some.injEq] at e; subst e
    obtain ⟨g1, g2⟩ := findKey_sound (w := w) hE hf
    obtain ⟨en, a1, a2, a3, a4⟩ := g2 _ _ _ _ rfl
    have a1' : es'[j]? = some en := by simpa using a1
    obtain ⟨_, r1, r2, r3⟩ := RelH.setMap (P := P) (cl2 := clock) H hg hp hw (es2' := es'.modify j fun e => { e with key, val := z }) (by rw [Array.toList_modify]; exact setEnt_rel hz _ hE a1 rfl rfl rfl)
    refine ⟨_, ?_, r2, r3⟩
    unfold Instr.mapUpdate
    simp only [Sem.run_bind, run_under hd, Result.andThen_ok, run_getObj_map hw, semP_run _ _ hchk w, g1, Option.map_some, a1', a3, Option.getD_some, semP_run _ _ hkey w, r1]
  · rename_i u hchk hf
    simp only [Option.some.injEq] at e; subst e
    obtain ⟨g1, _⟩ := findKey_sound (w := w) hE hf
    obtain ⟨_, r1, r2, r3⟩ := RelH.setMap (P := P) (cl2 := clock + 1) H hg hp hw (es2' := es'.push { key := y, val := z, born := clock }) (by rw [Array.toList_push]; exact RelE.snoc hz rfl rfl hE)
    refine ⟨_, ?_, r2, r3⟩
    unfold Instr.mapUpdate
    simp only [Sem.run_bind, run_under hd, Result.andThen_ok, run_getObj_map hw, semP_run _ _ hchk w, g1, Option.map_none, r1]
  · cases e

theorem evMapEntry_sound (H : RelH ρ st w) {t : TypeId} {m k v : AV} {x y : Value} (hx : RelV ρ m x) (hy : RelV ρ k y) {st' : St} (e : evMapEntry P st t m k = some (v, st')) :
    ∃ z w', (Instr.mapEntry t x y).run P w = .ok z w' ∧ RelV ρ v z ∧ RelH ρ st' w' ∧ Fr ρ st w ρ st' w' := by
  unfold evMapEntry at e
  split at e
  case h_2 => cases e
  rename_i i kv kt et hkv hd
  split at e
  case h_2 => cases e
  rename_i es clock hg
  have hyk := RelV.toV _ _ _ hy hkv
  subst hyk
  obtain ⟨b, es', rfl, hp, hw, hE⟩ := mapOf H hx hg
  split at e
  · rename_i u j k' v' b' hchk hf
    split at e
    case h_2 => cases e
    rename_i key hkey
    simp only [Option.some.injEq, Prod.mk.injEq] at e
    obtain ⟨rfl, rfl⟩ := e
    obtain ⟨g1, g2⟩ := findKey_sound (w := w) hE hf
    obtain ⟨en, a1, a2, a3, a4⟩ := g2 _ _ _ _ rfl
    have a1' : es'[j]? = some en := by simpa using a1
    obtain ⟨r0, r1, r2, r3⟩ := RelH.setMap (P := P) (cl2 := clock) H hg hp hw (es2' := es'.modify j fun e => { e with key }) (by rw [Array.toList_modify]; exact setEnt_rel a2 _ hE a1 rfl rfl rfl)
    refine ⟨.tuple #[en.val, goInt b'], _, ?_, relV_tup.2 ⟨[en.val, goInt b'], RelL.cons a2 (RelL.cons (RelV.sc _) (RelL.nil_iff.2 rfl)), rfl⟩, r2, r3⟩
    unfold Instr.mapEntry
    simp only [Sem.run_bind, run_under hd, Result.andThen_ok, run_getObj_map hw, semP_run _ _ hchk w, g1, Option.map_some, a1', a3, a4, Option.getD_some, semP_run _ _ hkey w, r1, Sem.run_pure]
    simp [a1]
  · rename_i u hchk hf
    split at e
    case h_2 => cases e
    rename_i z hz
    simp only [Option.some.injEq, Prod.mk.injEq] at e
    obtain ⟨rfl, rfl⟩ := e
    obtain ⟨g1, _⟩ := findKey_sound (w := w) hE hf
    obtain ⟨_, r1, r2, r3⟩ := RelH.setMap (P := P) (cl2 := clock + 1) H hg hp hw (es2' := es'.push { key := y, val := z, born := clock }) (by rw [Array.toList_push]; exact RelE.snoc (RelV.sc z) rfl rfl hE)
    refine ⟨.tuple #[z, goInt clock], _, ?_, relV_tup.2 ⟨[z, goInt clock], RelL.cons (RelV.sc _) (RelL.cons (RelV.sc _) (RelL.nil_iff.2 rfl)), rfl⟩, r2, r3⟩
    unfold Instr.mapEntry
    simp only [Sem.run_bind, run_under hd, Result.andThen_ok, run_getObj_map hw, semP_run _ _ hchk w, g1, Option.map_none, semP_run _ _ hz w, r1, Sem.run_pure]
  · cases e

theorem bornAt_sound {bn : Int} : ∀ {l : List (Value × AV × Nat)} {es : List MapEntry} {i j : Nat} {key : Value}, RelE ρ l es → bornAt bn l i = some (j, key) →
    i ≤ j ∧ es.findIdx? (fun e => (e.born : Int) == bn) = some (j - i) ∧ ∃ e, es[j - i]? = some e ∧ e.key = key
  | [], _, i, j, key, _, e => by simp [bornAt] at e
  | (k, v, b) :: l, _, i, j, key, ⟨en, es', h1, h2, h3, h4, h5⟩, e => by
    subst h5
    simp only [bornAt] at e
    cases hb : decide ((b : Int) = bn) with
    | true =>
      rw [hb] at e; simp only [cond_true, Option.some.injEq, Prod.mk.injEq] at e
      obtain ⟨rfl, rfl⟩ := e
      have : ((en.born : Int) == bn) = true := by rw [h3]; simpa using hb
      exact ⟨Nat.le_refl _, by rw [List.findIdx?_cons, this]; simp, en, by simp, h2⟩
    | false =>
      rw [hb] at e; simp only [cond_false] at e
      obtain ⟨g1, g2, e2, g3, g4⟩ := bornAt_sound h4 e
      have : ((en.born : Int) == bn) = false := by rw [h3]; simpa using hb
      refine ⟨by omega, ?_, e2, ?_, g4⟩
      · rw [List.findIdx?_cons, this, g2]; simp; omega
      · rw [show j - i = (j - (i + 1)) + 1 by omega, List.getElem?_cons_succ]; exact g3

theorem evEntryStore_sound (H : RelH ρ st w) {t : TypeId} {m s v : AV} {x y z : Value} (hx : RelV ρ m x) (hy : RelV ρ s y) (hz : RelV ρ v z) {st' : St} (e : evEntryStore st m s v = some st') :
    ∃ w', (Instr.entryStore t x y z).run P w = .ok () w' ∧ RelH ρ st' w' ∧ Fr ρ st w ρ st' w' := by
  unfold evEntryStore at e
  split at e
  case h_2 => cases e
  rename_i i kd bn
  split at e
  case h_2 => cases e
  rename_i es clock hg
  split at e
  case h_2 => cases e
  rename_i j key hbn
  simp only [Option.some.injEq] at e; subst e
  obtain ⟨b, es', rfl, hp, hw, hE⟩ := mapOf H hx hg
  obtain ⟨_, g2, en, g3, g4⟩ := bornAt_sound hE hbn
  simp only [Nat.sub_zero] at g2 g3
  have g2' : es'.findIdx? (fun e => (e.born : Int) == bn) = some j := by cases es' with | mk l => simpa using g2
  obtain ⟨_, r1, r2, r3⟩ := RelH.setMap (P := P) (cl2 := clock) H hg hp hw (es2' := es'.modify j fun e => { e with val := z }) (by rw [Array.toList_modify]; exact setEnt_rel hz _ hE g3 g4 rfl rfl)
  refine ⟨_, ?_, r2, r3⟩
  rw [relV_sc.1 hy]
  unfold Instr.entryStore
  simp only [Sem.run_bind, Result.andThen_ok, run_getObj_map hw, asInt, asIntOf, pure_bind, g2', r1]
end
end Go.Proofs.Ytfkfejonlfcgoaa.Ev
