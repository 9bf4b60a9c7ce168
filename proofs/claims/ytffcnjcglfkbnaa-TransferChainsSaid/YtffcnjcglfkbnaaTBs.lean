/- The evaluator: slices.BinarySearch at []int by its contract. -/
import Derived.Test.YtffcnjcglfkbnaaEvPan9
import Derived.Test.YtffcnjcglfkbnaaRows
import Derived.Shelf.Slices.SearchI
import Derived.Shelf.Lay
import Derived.Ground.Names2Prog
namespace Go.Proofs.Ytffcnjcglfkbnaa
open Go.Shelf Go.RowKit Ev

shelf_lay Lays2.n25 Nm2 25 at Try as Try.laysSearch

namespace Ev
noncomputable section
/-- How many are less, and whether one is equal: of ascending numbers; none: they are not ascending. -/
def cntN (x : Nat) (l : List Nat) : Nat := @List.rec Nat (fun _ => Nat) 0 (fun y _ ih => @Bool.rec (fun _ => Nat) ih (Nat.succ ih) (Nat.ble (Nat.succ y) x)) l
def memN (x : Nat) (l : List Nat) : Bool := @List.rec Nat (fun _ => Bool) false (fun y _ ih => @Bool.rec (fun _ => Bool) ih true (Nat.beq x y)) l
def ascN (l : List Nat) : Nat → Bool := @List.rec Nat (fun _ => Nat → Bool) (fun _ => true) (fun y _ ih b => @Bool.rec (fun _ => Bool) false (ih y) (Nat.ble b y)) l
def natsA (l : List AV) : Option (List Nat) :=
  match l with
  | [] => some []
  | .sc (.int .i64 (.ofNat x)) :: l => match natsA l with
    | some xs => some (x :: xs)
    | none => none
  | _ :: _ => none
def hookBS : Hook := fun _ bad _ args st kret _ =>
  match args with
  | [.sl i k n z _, .sc (.int .i64 (.ofNat x))] => ifB (optK bad (fun l => optK bad (fun xs => ifB (kret (.tup [.sc (.int .i64 (.ofNat (cntN x xs))), .sc (.bool (memN x xs))]) st) bad (ascN xs 0)) (natsA l)) (rdsF st.h i k n)) bad (Nat.beq z 1 && (Nat.ble 1 n && Nat.ble n 4000000000000000000))
  | _ => bad
end
theorem ascN_pw : ∀ (l : List Nat) (b : Nat), ascN l b = true → (∀ y ∈ l, b ≤ y) ∧ l.Pairwise (· ≤ ·)
  | [], b, _ => ⟨fun _ h => (List.not_mem_nil h).elim, List.Pairwise.nil⟩
  | y :: l, b, h => by
    have h' : @Bool.rec (fun _ => Bool) false (ascN l y) (Nat.ble b y) = true := h
    cases hb : Nat.ble b y with
    | false => rw [hb] at h'; cases h'
    | true =>
      rw [hb] at h'
      obtain ⟨h1, h2⟩ := ascN_pw l y h'
      have hle := Nat.le_of_ble_eq_true hb
      exact ⟨fun z hz => by rcases List.mem_cons.1 hz with rfl | hz; exact hle; exact Nat.le_trans hle (h1 z hz), List.Pairwise.cons h1 h2⟩
theorem cntN_eq (x : Nat) : ∀ l : List Nat, cntN x l = (l.map Int.ofNat).countP (· < (x : Int))
  | [] => rfl
  | y :: l => by
    show @Bool.rec (fun _ => Nat) (cntN x l) (Nat.succ (cntN x l)) (Nat.ble (Nat.succ y) x) = _
    rw [List.map_cons, List.countP_cons, ← cntN_eq x l]
    cases hb : Nat.ble (Nat.succ y) x with
    | true =>
      have h1 : y < x := Nat.le_of_ble_eq_true hb
      simp [h1]
    | false =>
      have h1 : x ≤ y := by
        rcases Nat.lt_or_ge y x with h | h
        · rw [Nat.ble_eq_true_of_le h] at hb; cases hb
        · exact h
      simp [h1]
theorem memN_eq (x : Nat) : ∀ l : List Nat, memN x l = (l.map Int.ofNat).contains (x : Int)
  | [] => rfl
  | y :: l => by
    show @Bool.rec (fun _ => Bool) (memN x l) true (Nat.beq x y) = _
    rw [List.map_cons, List.contains_cons, ← memN_eq x l]
    cases hb : Nat.beq x y with
    | true =>
      have : x = y := Nat.eq_of_beq_eq_true hb
      subst this
      simp
    | false =>
      have h0 : x ≠ y := Nat.ne_of_beq_eq_false hb
      have h1 : ((x : Int) == Int.ofNat y) = false := by
        rw [beq_eq_false_iff_ne]
        intro h
        apply h0
        simp at h
        omega
      rw [h1]
      simp
theorem natsA_rel {ρ : Rho} : ∀ {l : List AV} {xs : List Nat} {vs : List Value}, natsA l = some xs → RelL ρ l vs → vs = xs.map fun x => .int .i64 (Int.ofNat x)
  | [], xs, vs, h, hr => by
    simp only [natsA, Option.some.injEq] at h; subst h
    exact RelL.nil_iff.1 hr
  | u :: l, xs, vs, h, hr => by
    obtain ⟨y, ys, h1, h2, rfl⟩ := hr.cons_inv
    unfold natsA at h
    split at h
    case h_1 e => cases e
    case h_3 => cases h
    rename_i x l' e
    cases e
    split at h
    case h_2 => cases h
    rename_i zs hz
    simp only [Option.some.injEq] at h; subst h
    rw [relV_sc.1 h1, natsA_rel hz h2]; rfl
theorem RelH.drewN {ρ : Rho} {st : St} {w : World} (H : RelH ρ st w) (q : Nat) : RelH ρ st (w.drewN q) ∧ Fr ρ st w ρ st (w.drewN q) := by
  have B : Below w.heap.size w (w.drewN q) := ⟨rfl, rfl, rfl, Nat.le_refl _, fun _ _ => rfl⟩
  exact ⟨⟨fun i o hg => (H.obj i o hg).mono (Ext.refl _) (fun p hp => B.block _ (H.dom _ _ hp).2) (fun _ _ _ _ h => h), fun i p hp => ⟨(H.dom i p hp).1, Nat.lt_of_lt_of_le (H.dom i p hp).2 B.size⟩, H.sep, H.stamp, H.pos⟩,
    ⟨Nat.le_refl _, fun _ _ => rfl, fun i p h e => absurd (H.dom i p e).1 (by omega), fun _ o h _ => ⟨o, h⟩, B.size, B.os, B.tape, B.output, fun b hb _ => B.block b hb, fun i o _ h hc _ => ⟨i, o, h, hc⟩⟩⟩
end Ev

theorem search_calls (b off n c : Nat) (zs : List Int) (x : Int) (w : World) (hz : n ≤ zs.length) (hbig : n < 4611686018427387904) (hc : ∀ j, j < zs.length → w.cell? ⟨b, off + j, none⟩ = some (.int .i64 (zs.getD j 0))) (hs : (zs.take n).Pairwise (· ≤ ·)) :
    Calls Try.prog 71 #[.slice (some ⟨b, off, none⟩) n c, .int .i64 x] w fun e w' => e = .returned (.tuple #[.int .i64 ((zs.take n).countP (· < x) : Nat), .bool ((zs.take n).contains x)]) ∧ ∃ q, w' = w.drewN q := by
  have h := Any.slices_BinarySearch_int Try.laysSearch b off n c zs x w hz hbig hc hs
  have e : Try.laysSearch_ren.f 25 = 71 := by kernel_rfl
  rw [e] at h
  exact h

theorem hookBS_ok : ∀ (R : Type) (bad : R) (rk : RKK R), RKOk Try.prog bad rk → ∀ args st kret kpan x, hookBS R bad rk args st kret kpan = x → x ≠ bad → SoundK Try.prog 71 args st kret kpan x := by
  intro R bad rk _ args st kret kpan x e hx
  unfold hookBS at e
  split at e
  case h_2 => exact absurd e.symm hx
  rename_i i k n z c v
  obtain ⟨h0, h1⟩ := ifB_inv e hx
  obtain ⟨l, h2, h3⟩ := optK_inv h1 hx
  rw [rdsF_eq] at h2
  obtain ⟨xs, h4, h5⟩ := optK_inv h3 hx
  obtain ⟨h6, h7⟩ := ifB_inv h5 hx
  simp only [Bool.and_eq_true] at h0
  have hz1 : z = 1 := Nat.eq_of_beq_eq_true h0.1
  have hn1 : 1 ≤ n := Nat.le_of_ble_eq_true h0.2.1
  have hn2 : n ≤ 4000000000000000000 := Nat.le_of_ble_eq_true h0.2.2
  subst hz1
  refine ⟨.ret _, st, h7, fun ρ ys w hl hH => ?_⟩
  obtain ⟨y1, r1, q1, q2, rfl⟩ := hl.cons_inv
  obtain ⟨y2, r2, q3, q4, rfl⟩ := q2.cons_inv
  have hr2 := RelL.nil_iff.1 q4
  subst hr2
  rw [relV_sc.1 q3]
  obtain ⟨a, cap, p1, p2, p3, rfl⟩ := relV_sl.1 q1
  obtain ⟨ha, _⟩ := p1 (by omega)
  obtain ⟨zs, k1, k2, k3⟩ := hH.rds h2 ha
  have k4 := natsA_rel h4 k1
  subst k4
  obtain ⟨b, o, e', e1, e2, e3, e4⟩ := ha
  obtain ⟨a_b, a_o, a_s⟩ := a
  simp only at e2 e3 e4
  subst e2; subst e3
  have hlen : xs.length = n := by simpa using k2
  obtain ⟨s1, s2⟩ := ascN_pw xs 0 h6
  have htake : (xs.map Int.ofNat).take n = xs.map Int.ofNat := List.take_of_length_le (by simp [hlen])
  refine (search_calls a_b a_o n cap (xs.map Int.ofNat) (Int.ofNat v) w (by simp [hlen]) (by omega) (fun j hj => ?_) (by rw [htake, List.pairwise_map]; exact s2.imp (fun h => by simpa using h))).mono ?_
  · have hj' : j < xs.length := by simpa using hj
    have := k3 j (.int .i64 (Int.ofNat xs[j])) (by simp [hj'])
    have hadd : (Addr.add ⟨a_b, a_o, none⟩ j) = ⟨a_b, a_o + j, none⟩ := Addr.add_lit _ _ _
    rw [hadd] at this
    rw [this]
    simp [List.getD, hj']
  · rintro e w' ⟨rfl, q, rfl⟩
    obtain ⟨m1, m2⟩ := RelH.drewN hH q
    refine ⟨ρ, ⟨_, rfl, relV_tup.2 ⟨_, RelL.cons (RelV.sc _) (RelL.cons (RelV.sc _) (RelL.nil_iff.2 rfl)), ?_⟩⟩, m1, m2⟩
    rw [htake, cntN_eq, memN_eq]
    rfl
end Go.Proofs.Ytffcnjcglfkbnaa
