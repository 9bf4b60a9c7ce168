/- Reading, laying, appending: the same, for the kernel. -/
import Derived.Test.YtfkfejonlfcgoaaEvRes
namespace Go.Proofs.Ytfkfejonlfcgoaa.Ev
open Go Go.RowKit
noncomputable section
def ifB {R : Type} (a b : R) (c : Bool) : R := @Bool.rec (fun _ => R) b a c
def optK {α R : Type} (bad : R) (k : α → R) (o : Option α) : R := @Option.rec α (fun _ => R) bad k o
def T.getK {α R : Type} (t : T α) (bad : R) (k : α → R) : Nat → R :=
  @T.rec α (fun _ => Nat → R) (fun _ => bad) (fun _ v _ gl gr n => @Nat.rec (fun _ => R) (@Option.rec α (fun _ => R) bad k v) (fun m _ => @Nat.rec (fun _ => R) (gl (Nat.div m 2)) (fun _ _ => gr (Nat.div m 2)) (Nat.mod m 2)) n) t
def aoK {R : Type} (bad : R) (k : T (AV × Nat) → Nat → Nat → Nat → T Nat → R) (ao : AO) : R := @AO.rec (fun _ => R) k (fun _ _ => bad) ao
/-- The writes of an object's class. -/
def rdW (h : T AO) (i cls : Nat) (w : T Nat) : Option (T Nat) := ifB (some w) (h.getK none (aoK none fun _ _ _ _ w' => some w') cls) (Nat.beq cls i)
def cellF (c : T (AV × Nat)) (ww : T Nat) (k : Nat) : Option AV :=
  c.getK none (fun p => @Prod.rec AV Nat (fun _ => Option AV) (fun v s => @Option.rec Nat (fun _ => Option AV) (some v) (fun s' => ifB (some v) none (Nat.ble s' s)) (ww.get k)) p) k
def rdCellF (h : T AO) (i k : Nat) : Option AV :=
  h.getK none (aoK none fun c lo hi cls w => ifB (ifB (optK none (fun ww => cellF c ww k) (rdW h i cls w)) none (Nat.ble (Nat.succ k) hi)) none (Nat.ble lo k)) i
def readF (c : T (AV × Nat)) (ww : T Nat) (n : Nat) : Nat → Option (List AV) :=
  @Nat.rec (fun _ => Nat → Option (List AV)) (fun _ => some []) (fun _ ih k => optK none (fun v => optK none (fun l => some (v :: l)) (ih (Nat.succ k))) (cellF c ww k)) n
def rdsF (h : T AO) (i k n : Nat) : Option (List AV) :=
  @Nat.rec (fun _ => Option (List AV)) (some []) (fun m _ => h.getK none (aoK none fun c lo hi cls w => ifB (ifB (optK none (fun ww => readF c ww (Nat.succ m) k) (rdW h i cls w)) none (Nat.ble (Nat.add k (Nat.succ m)) hi)) none (Nat.ble lo k)) i) n
def layF (s : Nat) (l : List AV) : Nat → T (AV × Nat) → T (AV × Nat) :=
  @List.rec AV (fun _ => Nat → T (AV × Nat) → T (AV × Nat)) (fun _ t => t) (fun v _ ih q t => ih (Nat.succ q) (t.put q (v, s))) l
def allOneF (l : List AV) : Bool := @List.rec AV (fun _ => Bool) true (fun v _ ih => ifB ih false v.one) l
def lenF {α : Type} (l : List α) : Nat := @List.rec α (fun _ => Nat) 0 (fun _ _ ih => Nat.succ ih) l
def appF {α : Type} (l m : List α) : List α := @List.rec α (fun _ => List α) m (fun v _ ih => v :: ih) l
def rowF (i : Nat) (l : List AV) : Option AO := ifB (some (.cells (layF 0 l 0 .leaf) 0 (lenF l) i .leaf)) none (allOneF l)
end
theorem T.getK_eq {α R : Type} (bad : R) (k : α → R) : ∀ (t : T α) (n : Nat), t.getK bad k n = optK bad k (t.get n)
  | .leaf, n => rfl
  | .node l v r, 0 => rfl
  | .node l v r, m + 1 => by
    show @Nat.rec (fun _ => R) (l.getK bad k (Nat.div m 2)) (fun _ _ => r.getK bad k (Nat.div m 2)) (Nat.mod m 2) = optK bad k (@Nat.rec (fun _ => Option α) (l.get (Nat.div m 2)) (fun _ _ => r.get (Nat.div m 2)) (Nat.mod m 2))
    cases Nat.mod m 2 with
    | zero => exact T.getK_eq bad k l _
    | succ q => exact T.getK_eq bad k r _
theorem allOneF_eq : ∀ l : List AV, allOneF l = allOne l
  | [] => rfl
  | v :: l => by
    show ifB (allOneF l) false v.one = (v.one && allOne l)
    rw [allOneF_eq l]
    cases v.one <;> rfl
theorem lenF_eq {α : Type} : ∀ l : List α, lenF l = l.length
  | [] => rfl
  | v :: l => by
    show Nat.succ (lenF l) = _
    rw [lenF_eq l]; rfl
theorem appF_eq {α : Type} : ∀ l m : List α, appF l m = l ++ m
  | [], m => rfl
  | v :: l, m => by
    show v :: appF l m = _
    rw [appF_eq l m]; rfl
theorem layF_eq (s : Nat) : ∀ (l : List AV) (q : Nat) (t : T (AV × Nat)), layF s l q t = lay s l q t
  | [], q, t => rfl
  | v :: l, q, t => by
    show layF s l (Nat.succ q) (t.put q (v, s)) = lay s l (q + 1) (t.put q (v, s))
    exact layF_eq s l _ _
theorem rowF_eq (i : Nat) (l : List AV) : rowF i l = rowOf i l := by
  unfold rowF rowOf
  rw [allOneF_eq, layF_eq, lenF_eq]
  cases allOne l <;> rfl
theorem rdW_eq {h : T AO} {i cls : Nat} {w : T Nat} {c : T (AV × Nat)} {lo hi : Nat} (hi' : h.get i = some (.cells c lo hi cls w)) : rdW h i cls w = match h.get cls with | some (.cells _ _ _ _ w') => some w' | _ => none := by
  unfold rdW
  cases hb : Nat.beq cls i with
  | true =>
    have := Nat.eq_of_beq_eq_true hb
    subst this
    rw [hi']; rfl
  | false =>
    show h.getK none (aoK none fun _ _ _ _ w' => some w') cls = _
    rw [T.getK_eq]
    cases h.get cls with
    | none => rfl
    | some ao => cases ao <;> rfl
theorem cellF_eq (c : T (AV × Nat)) (ww : T Nat) (k : Nat) : cellF c ww k = match c.get k with | some (v, s) => (match ww.get k with | none => some v | some s' => bif s'.ble s then some v else none) | none => none := by
  unfold cellF
  rw [T.getK_eq]
  cases c.get k with
  | none => rfl
  | some p =>
    obtain ⟨v, s⟩ := p
    show @Option.rec Nat (fun _ => Option AV) (some v) (fun s' => ifB (some v) none (Nat.ble s' s)) (ww.get k) = _
    cases ww.get k with
    | none => rfl
    | some s' =>
      show ifB (some v) none (Nat.ble s' s) = bif s'.ble s then some v else none
      cases Nat.ble s' s <;> rfl
theorem rdCell_at {h : T AO} {i k cls lo hi : Nat} {w : T Nat} {c : T (AV × Nat)} (hi' : h.get i = some (.cells c lo hi cls w)) : rdCell h i k = bif lo.ble k && k.blt hi then (match rdW h i cls w with | some ww => cellF c ww k | none => none) else none := by
  unfold rdCell
  rw [hi', rdW_eq hi']
  simp only
  cases lo.ble k && k.blt hi with
  | false => rfl
  | true =>
    simp only [cond_true]
    cases hc : h.get cls with
    | none => simp only; cases c.get k with
      | none => rfl
      | some p => rfl
    | some ao => cases ao with
      | map es cl => simp only; cases c.get k with
        | none => rfl
        | some p => rfl
      | cells c' lo' hi'' cls' w' =>
        simp only
        rw [cellF_eq]
        cases c.get k with
        | none => rfl
        | some p => rfl
theorem rdCellF_eq (h : T AO) (i k : Nat) : rdCellF h i k = rdCell h i k := by
  unfold rdCellF
  rw [T.getK_eq]
  cases hi : h.get i with
  | none => unfold rdCell; rw [hi]; rfl
  | some ao => cases ao with
    | map es cl => unfold rdCell; rw [hi]; rfl
    | cells c lo hi' cls w =>
      rw [rdCell_at hi]
      show ifB (ifB (optK none (fun ww => cellF c ww k) (rdW h i cls w)) none (Nat.ble (Nat.succ k) hi')) none (Nat.ble lo k) = _
      have hblt : k.blt hi' = Nat.ble (Nat.succ k) hi' := rfl
      rw [hblt]
      cases Nat.ble lo k with
      | false => rfl
      | true =>
        cases Nat.ble (Nat.succ k) hi' with
        | false => rfl
        | true =>
          show optK none (fun ww => cellF c ww k) (rdW h i cls w) = _
          cases rdW h i cls w <;> rfl
theorem readF_eq {h : T AO} {i cls lo hi : Nat} {w : T Nat} {c : T (AV × Nat)} (hi' : h.get i = some (.cells c lo hi cls w)) {ww : T Nat} (hw : rdW h i cls w = some ww) : ∀ (n k : Nat), lo ≤ k → k + n ≤ hi → readF c ww n k = rdCells h i k n
  | 0, k, _, _ => rfl
  | n + 1, k, h1, h2 => by
    have e : rdCell h i k = cellF c ww k := by
      rw [rdCell_at hi', hw]
      have a1 : lo.ble k = true := Nat.ble_eq_true_of_le h1
      have a2 : k.blt hi = true := Nat.ble_eq_true_of_le (show Nat.succ k ≤ hi by omega)
      rw [a1, a2]; rfl
    have e2 : readF c ww n (Nat.succ k) = rdCells h i (k + 1) n := readF_eq hi' hw n (k + 1) (by omega) (by omega)
    show optK none (fun v => optK none (fun l => some (v :: l)) (readF c ww n (Nat.succ k))) (cellF c ww k) = _
    simp only [rdCells]
    rw [e, e2]
    cases cellF c ww k with
    | none => rfl
    | some v =>
      show optK none (fun l => some (v :: l)) (rdCells h i (k + 1) n) = _
      cases rdCells h i (k + 1) n <;> rfl
theorem rdCells_none {h : T AO} {i : Nat} : ∀ (n k j : Nat), j < n → rdCell h i (k + j) = none → rdCells h i k n = none
  | 0, k, j, hj, _ => absurd hj (Nat.not_lt_zero _)
  | n + 1, k, 0, _, e => by
    simp only [rdCells]
    rw [Nat.add_zero] at e
    rw [e]
  | n + 1, k, j + 1, hj, e => by
    simp only [rdCells]
    have := rdCells_none (h := h) (i := i) n (k + 1) j (by omega) (by rw [show k + 1 + j = k + (j + 1) by omega]; exact e)
    rw [this]
    cases rdCell h i k <;> rfl
theorem rdsF_eq (h : T AO) (i k : Nat) : ∀ n, rdsF h i k n = rdCells h i k n
  | 0 => rfl
  | m + 1 => by
    show h.getK none (aoK none fun c lo hi cls w => ifB (ifB (optK none (fun ww => readF c ww (Nat.succ m) k) (rdW h i cls w)) none (Nat.ble (Nat.add k (Nat.succ m)) hi)) none (Nat.ble lo k)) i = _
    rw [T.getK_eq]
    cases hi : h.get i with
    | none =>
      rw [rdCells_none (m + 1) k 0 (by omega) (by unfold rdCell; rw [hi])]; rfl
    | some ao => cases ao with
      | map es cl => rw [rdCells_none (m + 1) k 0 (by omega) (by unfold rdCell; rw [hi])]; rfl
      | cells c lo hi' cls w =>
        show ifB (ifB (optK none (fun ww => readF c ww (Nat.succ m) k) (rdW h i cls w)) none (Nat.ble (Nat.add k (Nat.succ m)) hi')) none (Nat.ble lo k) = _
        cases h1 : Nat.ble lo k with
        | false => rw [rdCells_none (m + 1) k 0 (by omega) (by rw [rdCell_at hi, Nat.add_zero, h1]; rfl)]; rfl
        | true =>
          cases h2 : Nat.ble (Nat.add k (Nat.succ m)) hi' with
          | false =>
            have h3 : ¬ k + (m + 1) ≤ hi' := fun hle => by
              have := Nat.ble_eq_true_of_le hle
              have e : Nat.add k (Nat.succ m) = k + (m + 1) := rfl
              rw [e] at h2
              rw [h2] at this; cases this
            rw [rdCells_none (m + 1) k m (by omega) (by
              rw [rdCell_at hi]
              have : (k + m).blt hi' = false := by
                cases hq : (k + m).blt hi' with
                | false => rfl
                | true => have := Nat.le_of_ble_eq_true hq; omega
              rw [this, Bool.and_false]; rfl)]; rfl
          | true =>
            have h3 : k + (m + 1) ≤ hi' := Nat.le_of_ble_eq_true h2
            show optK none (fun ww => readF c ww (Nat.succ m) k) (rdW h i cls w) = _
            cases hw : rdW h i cls w with
            | none =>
              rw [rdCells_none (m + 1) k 0 (by omega) (by rw [rdCell_at hi, hw]; cases lo.ble (k + 0) && (k + 0).blt hi' <;> rfl)]; rfl
            | some ww => exact readF_eq hi hw (m + 1) k (Nat.le_of_ble_eq_true h1) h3

noncomputable section
def addedF (st : St) (info : TypeInfo) (z : Value) (zeros : Bool) (x : AV) : Option (Nat × List AV) :=
  bif zeros then addedA st info z zeros x
  else match x with
    | .sl j k n _ _ => optK none (fun l => some (n, l)) (rdsF st.h j k (Nat.mul n info.size))
    | x => addedA st info z zeros x
def versionF (st : St) (i k n m size : Nat) (c : Option Nat) (new : List AV) : Option (AV × St) :=
  st.h.getK none (aoK none fun cs lo hi cls _ =>
    ifB (st.h.getK none (aoK none fun c' lo' hi' cls' w' =>
        some (.sl st.nx k (Nat.add n m) size c,
          ⟨(st.h.put cls (.cells c' lo' hi' cls' (bump st.nx (m * size) (k + n * size) w'))).put st.nx
            (.cells (layF st.nx new (Nat.add k (Nat.mul n size)) cs) k (Nat.add k (Nat.mul (Nat.add n m) size)) cls .leaf), Nat.succ st.nx⟩)) cls) none
      (ifB (ifB (allOneF new) false (Nat.ble (Nat.add k (Nat.mul n size)) hi)) false (Nat.ble lo k))) i
def appendF (P : Program) (st : St) (sT : TypeId) (zeros : Bool) (s x : AV) : Option (AV × St) :=
  match P.underlying sT with
  | some (.slice e) => match semP P (typeInfo e) with
    | none => none
    | some info => match info.zero with
      | none => none
      | some z => optK none (fun p => @Prod.rec Nat (List AV) (fun _ => Option (AV × St)) (fun m new =>
          bif (1).ble info.size && info.bytes.ble 65536 && (lenF new).beq (m * info.size) && z.cells.size.beq info.size && m.ble 65536 then
            match s with
            | .sc (.slice none n c) =>
              bif n.beq 0 && c.beq 0 then
                bif m.beq 0 then some (s, st)
                else optK none (fun ao => some (.sl st.nx 0 m info.size none, ⟨st.h.put st.nx ao, Nat.succ st.nx⟩)) (rowF st.nx new)
              else none
            | .sl i k n zz c =>
              bif (n + m).ble 65536 && zz.beq info.size then
                bif m.beq 0 then some (s, st)
                else bif mayFit c (n + m) then versionF st i k n m info.size c new
                else optK none (fun old => optK none (fun ao => some (.sl st.nx 0 (Nat.add n m) info.size none, ⟨st.h.put st.nx ao, Nat.succ st.nx⟩)) (rowF st.nx (appF old new))) (rdsF st.h i k (Nat.mul n info.size))
              else none
            | _ => none
          else none) p) (addedF st info z zeros x)
  | _ => none
end
theorem addedF_eq (st : St) (info : TypeInfo) (z : Value) (zeros : Bool) (x : AV) : addedF st info z zeros x = addedA st info z zeros x := by
  unfold addedF
  cases zeros with
  | true => rfl
  | false =>
    simp only [cond_false]
    split
    · rename_i j k n zz c
      rw [rdsF_eq]
      show _ = addedA st info z false (.sl j k n zz c)
      unfold addedA
      simp only [cond_false]
      have e : Nat.mul n info.size = n * info.size := rfl
      rw [e]
      cases rdCells st.h j k (n * info.size) <;> rfl
    · rfl
theorem versionF_eq (st : St) (i k n m size : Nat) (c : Option Nat) (new : List AV) : versionF st i k n m size c new = versionA st i k n m size c new := by
  unfold versionF versionA
  rw [T.getK_eq]
  cases hi : st.h.get i with
  | none => rfl
  | some ao => cases ao with
    | map es cl => rfl
    | cells cs lo hi' cls w =>
      simp only [optK, aoK]
      rw [T.getK_eq, allOneF_eq]
      have e : Nat.add k (Nat.mul n size) = k + n * size := rfl
      rw [e]
      cases lo.ble k with
      | false => rfl
      | true =>
        cases (k + n * size).ble hi' with
        | false => rfl
        | true =>
          cases allOne new with
          | false => rfl
          | true =>
            simp only [ifB, Bool.and_self, cond_true]
            cases st.h.get cls with
            | none => rfl
            | some ao => cases ao with
              | map es cl => rfl
              | cells c' lo' hi'' cls' w' =>
                simp only [optK, aoK, layF_eq]
                rfl
theorem appendF_eq (P : Program) (st : St) (sT : TypeId) (zeros : Bool) (s x : AV) : appendF P st sT zeros s x = appendA P st sT zeros s x := by
  unfold appendF appendA
  cases P.underlying sT with
  | none => rfl
  | some d => cases d with
    | slice e =>
      simp only
      cases semP P (typeInfo e) with
      | none => rfl
      | some info =>
        simp only
        cases info.zero with
        | none => rfl
        | some z =>
          simp only
          rw [addedF_eq]
          cases addedA st info z zeros x with
          | none => rfl
          | some p =>
            obtain ⟨m, new⟩ := p
            simp only [optK, lenF_eq, rowF_eq, rdsF_eq, appF_eq, versionF_eq]
            cases (Nat.ble 1 info.size && info.bytes.ble 65536 && new.length.beq (m * info.size) && z.cells.size.beq info.size && m.ble 65536) with
            | false => rfl
            | true =>
              simp only [cond_true]
              cases s with
              | sc v => cases v with
                | slice a n c => cases a with
                  | some a => rfl
                  | none =>
                    simp only
                    cases n.beq 0 && c.beq 0 with
                    | false => rfl
                    | true =>
                      simp only [cond_true]
                      cases m.beq 0 with
                      | true => rfl
                      | false =>
                        simp only [cond_false]
                        cases rowOf st.nx new <;> rfl
                | _ => rfl
              | sl i k n zz c =>
                simp only
                cases ((n + m).ble 65536 && zz.beq info.size) with
                | false => rfl
                | true =>
                  simp only [cond_true]
                  cases m.beq 0 with
                  | true => rfl
                  | false =>
                    simp only [cond_false]
                    cases mayFit c (n + m) with
                    | true => rfl
                    | false =>
                      simp only [cond_false]
                      have e2 : Nat.mul n info.size = n * info.size := rfl
                      rw [e2]
                      cases rdCells st.h i k (n * info.size) with
                      | none => rfl
                      | some old =>
                        simp only
                        cases rowOf st.nx (old ++ new) <;> rfl
              | _ => rfl
    | _ => rfl
end Go.Proofs.Ytfkfejonlfcgoaa.Ev
