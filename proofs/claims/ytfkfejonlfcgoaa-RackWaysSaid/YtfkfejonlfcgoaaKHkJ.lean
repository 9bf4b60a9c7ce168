/- Package rack by the evaluator: joined by its contract. -/
import Derived.Test.YtfkfejonlfcgoaaKWorks
import Derived.Test.YtfkfejonlfcgoaaKJoin
import Derived.Test.YtfkfejonlfcgoaaEvRd
namespace Go.Proofs.Ytfkfejonlfcgoaa
open Go.RowKit Ev
namespace Ev
noncomputable section
/-- The masks of braces whose cells lie one behind the other; the second one: all are valid. -/
def masksF (m n : Nat) : List Nat → List Nat × Bool
  | [] => ([], true)
  | r :: c :: _ :: l => @Prod.rec (List Nat) Bool (fun _ => List Nat × Bool) (fun ms ok => (Nat.lor (Nat.pow 2 r) (Nat.pow 2 (Nat.add m c)) :: ms, ifB (ifB ok false (Nat.ble (Nat.succ c) n)) false (Nat.ble (Nat.succ r) m))) (masksF m n l)
  | _ => ([], false)
def passF (ms : List Nat) : Nat → Nat := @List.rec Nat (fun _ => Nat → Nat) (fun s => s) (fun t _ ih s => ih (ifB s (Nat.lor s t) (Nat.beq (Nat.land s t) 0))) ms
def metF (ms : List Nat) (i : Nat) : Nat := @Nat.rec (fun _ => Nat) 1 (fun _ s => passF ms s) i
def joinedF (m n : Nat) (ms : List Nat) : Bool := Nat.beq (metF ms (Nat.add m n)) (Nat.sub (Nat.pow 2 (Nat.add m n)) 1)
def joinRd (args : List AV) (st : St) : Option Value :=
  match args with
  | [.agg [.sc (.int .i64 (.ofNat m)), .sc (.int .i64 (.ofNat n)), .sl i k len _ _]] =>
    ifB (optK none (fun l => optK none (fun xs => @Prod.rec (List Nat) Bool (fun _ => Option Value) (fun ms ok => ifB (some (.bool (joinedF m n ms))) none ok) (masksF m n xs)) (natsR l)) (rdsF st.h i k (Nat.mul len 3))) none
      (Nat.ble 1 len && (Nat.ble len 1000 && (Nat.ble 1 (Nat.add m n) && Nat.ble (Nat.add m n) 12)))
  | [.agg [.sc (.int .i64 (.ofNat m)), .sc (.int .i64 (.ofNat n)), .sc (.slice none 0 0)]] =>
    ifB (some (.bool (joinedF m n []))) none (Nat.ble 1 (Nat.add m n) && Nat.ble (Nat.add m n) 12)
  | _ => none
end
def brsOf : List Nat → List Br
  | r :: c :: k :: l => ((r : Int), (c : Int), (k : Int)) :: brsOf l
  | _ => []
theorem masksF_one {m n r : Nat} {ms : List Nat} : masksF m n [r] ≠ (ms, true) := fun h => by cases congrArg Prod.snd h
theorem masksF_two {m n r c : Nat} {ms : List Nat} : masksF m n [r, c] ≠ (ms, true) := fun h => by cases congrArg Prod.snd h
theorem masksF_spec (m n : Nat) : ∀ (l ms : List Nat), masksF m n l = (ms, true) → (∀ b ∈ brsOf l, K.InB m n b) ∧ ms = (brsOf l).map (K.two m) ∧ l.length = 3 * (brsOf l).length
  | [], ms, h => by
    have h' : (([] : List Nat), true) = (ms, true) := h
    simp only [Prod.mk.injEq, and_true] at h'; subst h'
    exact ⟨fun b hb => (List.not_mem_nil hb).elim, rfl, rfl⟩
  | [_], _, h => absurd h masksF_one
  | [_, _], _, h => absurd h masksF_two
  | r :: c :: k :: l, ms, h => by
    unfold masksF at h
    cases hq : masksF m n l with
    | mk ms' ok =>
      rw [hq] at h
      have h' : (Nat.lor (Nat.pow 2 r) (Nat.pow 2 (Nat.add m c)) :: ms', ifB (ifB ok false (Nat.ble (Nat.succ c) n)) false (Nat.ble (Nat.succ r) m)) = (ms, true) := h
      simp only [Prod.mk.injEq] at h'
      obtain ⟨h1, h2⟩ := h'
      cases hr : Nat.ble (Nat.succ r) m with
      | false => rw [hr] at h2; cases h2
      | true =>
        rw [hr] at h2
        cases hc : Nat.ble (Nat.succ c) n with
        | false => rw [hc] at h2; cases h2
        | true =>
          rw [hc] at h2
          have h3 : ok = true := h2
          subst h3
          obtain ⟨i1, i2, i3⟩ := masksF_spec m n l ms' hq
          have hr' := Nat.le_of_ble_eq_true hr
          have hc' := Nat.le_of_ble_eq_true hc
          refine ⟨fun b hb => ?_, ?_, ?_⟩
          · rcases List.mem_cons.1 hb with rfl | hb
            · exact ⟨by simp, by simp; omega, by simp, by simp; omega⟩
            · exact i1 b hb
          · rw [← h1, i2]
            show _ = K.two m ((r : Int), (c : Int), (k : Int)) :: _
            unfold K.two
            simp
          · show l.length + 3 = 3 * ((brsOf l).length + 1)
            omega
theorem passF_eq (m : Nat) : ∀ (bs : List Br) (s : Nat), passF (bs.map (K.two m)) s = K.pass m bs s
  | [], _ => rfl
  | b :: bs, s => by
    show passF (bs.map (K.two m)) (ifB s (Nat.lor s (K.two m b)) (Nat.beq (Nat.land s (K.two m b)) 0)) = K.pass m bs (K.meet m s b)
    have e : ifB s (Nat.lor s (K.two m b)) (Nat.beq (Nat.land s (K.two m b)) 0) = K.meet m s b := by
      unfold K.meet
      show ifB s (s ||| K.two m b) (Nat.beq (s &&& K.two m b) 0) = _
      cases hb : Nat.beq (s &&& K.two m b) 0 with
      | true => rw [if_pos (Nat.eq_of_beq_eq_true hb)]; rfl
      | false => rw [if_neg (Nat.ne_of_beq_eq_false hb)]; rfl
    rw [e, passF_eq m bs]
theorem metF_eq (m : Nat) (bs : List Br) : ∀ i, metF (bs.map (K.two m)) i = K.metAt m bs i
  | 0 => rfl
  | i + 1 => by
    show passF _ (metF _ i) = K.pass m bs (K.metAt m bs i)
    rw [metF_eq m bs i, passF_eq]
theorem joinedF_eq (m n : Nat) (bs : List Br) : joinedF m n (bs.map (K.two m)) = K.joined m n bs := by
  unfold joinedF K.joined
  rw [show Nat.add m n = m + n from rfl, metF_eq]
  generalize K.metAt m bs (m + n) = s
  show Nat.beq s (2 ^ (m + n) - 1) = _
  generalize 2 ^ (m + n) - 1 = t
  rw [Bool.eq_iff_iff, Nat.beq_eq, beq_iff_eq]
theorem brsOf_cells {w : World} {b o : Nat} : ∀ (l : List Nat) (q : Nat), (∀ j (h : j < l.length), w.cell? ⟨b, o + q + j, none⟩ = some (.int .i64 (l[j] : Nat))) → ∀ k (h : k < (brsOf l).length),
    w.cell? ⟨b, o + q + k * 3, none⟩ = some (.int .i64 (brsOf l)[k].1) ∧ w.cell? ⟨b, o + q + k * 3 + 1, none⟩ = some (.int .i64 (brsOf l)[k].2.1) ∧ w.cell? ⟨b, o + q + k * 3 + 2, none⟩ = some (.int .i64 (brsOf l)[k].2.2)
  | [], _, _, _, h => by cases h
  | [_], _, _, _, h => by cases h
  | [_, _], _, _, _, h => by cases h
  | r :: c :: z :: l, q, hc, 0, _ => ⟨hc 0 (by simp), hc 1 (by simp), hc 2 (by simp)⟩
  | r :: c :: z :: l, q, hc, k + 1, h => by
    have h' : k < (brsOf l).length := by
      have : k + 1 < (brsOf l).length + 1 := h
      omega
    have ih := brsOf_cells l (q + 3) (fun j hj => by
      have := hc (j + 3) (by simp; omega)
      rw [show o + (q + 3) + j = o + q + (j + 3) by omega]
      exact this) k h'
    have e : o + (q + 3) + k * 3 = o + q + (k + 1) * 3 := by omega
    rw [e] at ih
    exact ih
end Ev
theorem joinRd_ok (args : List AV) (st : St) (v : Value) (h : joinRd args st = some v) (ρ : Rho) (vs : List Value) (w : World) (hl : RelL ρ args vs) (hH : RelH ρ st w) :
    Calls Try.prog 47 vs.toArray w fun e w' => e = .returned v ∧ Below w.heap.size w w' := by
  unfold joinRd at h
  split at h
  case h_3 => cases h
  · rename_i m n i k len z c
    obtain ⟨h0, h1⟩ := ifB_inv h (by simp)
    obtain ⟨l, h2, h3⟩ := optK_inv h1 (by simp)
    obtain ⟨xs, h4, h5⟩ := optK_inv h3 (by simp)
    simp only [Bool.and_eq_true] at h0
    obtain ⟨a1, a2, a3, a4⟩ := h0
    have a1 := Nat.le_of_ble_eq_true a1
    have a2 := Nat.le_of_ble_eq_true a2
    have a3 : 1 ≤ m + n := Nat.le_of_ble_eq_true a3
    have a4 : m + n ≤ 12 := Nat.le_of_ble_eq_true a4
    cases hq : masksF m n xs with
    | mk ms ok =>
      rw [hq] at h5
      have h5' : ifB (some (Value.bool (joinedF m n ms))) none ok = some v := h5
      cases ok with
      | false => cases h5'
      | true =>
        have h6 : some (Value.bool (joinedF m n ms)) = some v := h5'
        simp only [Option.some.injEq] at h6
        subst h6
        obtain ⟨i1, rfl, i3⟩ := masksF_spec m n xs _ hq
        rw [joinedF_eq]
        obtain ⟨y1, r1, q1, q2, rfl⟩ := hl.cons_inv
        have hr2 := RelL.nil_iff.1 q2
        subst hr2
        obtain ⟨us, u1, rfl⟩ := relV_agg.1 q1
        obtain ⟨y2, r2, p1, p2, rfl⟩ := u1.cons_inv
        obtain ⟨y3, r3, p3, p4, rfl⟩ := p2.cons_inv
        obtain ⟨y4, r4, p5, p6, rfl⟩ := p4.cons_inv
        have hr4 := RelL.nil_iff.1 p6
        subst hr4
        rw [relV_sc.1 p1, relV_sc.1 p3]
        obtain ⟨b, o, cap, rfl, l1, l2⟩ := rd_nats hH p5 a1 h2 h4
        have hlen : (brsOf xs).length = len := by
          have : xs.length = len * 3 := l1
          omega
        have := joined_any m n (some ⟨b, o, none⟩) cap (brsOf xs) w (by unfold maxLen; omega) (fun k hk => ⟨b, o, rfl, brsOf_cells xs 0 (fun j hj => l2 j hj) k hk⟩) a3 a4 i1
        rw [hlen] at this
        exact this
  · rename_i m n
    obtain ⟨h0, h1⟩ := ifB_inv h (by simp)
    simp only [Bool.and_eq_true] at h0
    have a3 : 1 ≤ m + n := Nat.le_of_ble_eq_true h0.1
    have a4 : m + n ≤ 12 := Nat.le_of_ble_eq_true h0.2
    simp only [Option.some.injEq] at h1
    subst h1
    have := joined_any m n none 0 [] w (by unfold maxLen; simp) (fun k hk => by cases hk) a3 a4 (fun b hb => by cases hb)
    rw [← joinedF_eq] at this
    obtain ⟨y1, r1, q1, q2, rfl⟩ := hl.cons_inv
    have hr2 := RelL.nil_iff.1 q2
    subst hr2
    obtain ⟨us, u1, rfl⟩ := relV_agg.1 q1
    obtain ⟨y2, r2, p1, p2, rfl⟩ := u1.cons_inv
    obtain ⟨y3, r3, p3, p4, rfl⟩ := p2.cons_inv
    obtain ⟨y4, r4, p5, p6, rfl⟩ := p4.cons_inv
    have hr4 := RelL.nil_iff.1 p6
    subst hr4
    rw [relV_sc.1 p1, relV_sc.1 p3, relV_sc.1 p5]
    exact this
noncomputable def hkJ : Hks := hksOf [⟨47, always, hookRd joinRd⟩, ⟨15, always, hookNum worksF⟩]
theorem hkJ_ok : HksOk Try.prog hkJ := by
  refine hksOf_ok ?_
  intro en hm
  simp only [List.mem_cons, List.not_mem_nil, or_false] at hm
  rcases hm with rfl | rfl
  · exact hookRd_ok (g := 47) joinRd_ok
  · exact hookNum_ok (g := 15) worksF_ok
noncomputable def runJ (g : FuncId) (args : List AV) : Bool := isTrue (chkP Try.prog hkJ 100000 100000 g args)
theorem runJ_gives {g : FuncId} {args : List AV} {vs : List Value} (hr : RelL (fun _ => none) args vs) (h : runJ g args = true) : GivesV Try.prog g vs (.bool true) :=
  chkP_sound hkJ_ok t_mixed hr (isTrue_eq h)
end Go.Proofs.Ytfkfejonlfcgoaa
