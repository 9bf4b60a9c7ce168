/- Package rack: the walks of isStiff, Stiff, Groups. -/
import Derived.Test.YtmbfpekcfeeifaaKChk
namespace Go.Proofs.Ytmbfpekcfeeifaa
open Go.RowKit

theorem K.chkL_ok {m n : Int} : ∀ {bs : List Br}, K.chkL m n bs = 0 → ∀ b ∈ bs, 0 ≤ b.1 ∧ b.1 < m ∧ 0 ≤ b.2.1 ∧ b.2.1 < n ∧ (b.2.2 = 0 ∨ b.2.2 = 1 ∨ b.2.2 = 2)
  | [], _, b, hb => by cases hb
  | x :: bs, h, b, hb => by
    rw [K.chkL] at h
    split at h
    case isFalse => omega
    rename_i h1
    split at h
    case isFalse => omega
    rename_i h2
    rw [Bool.and_eq_true] at h1
    have k1 := of_decide_eq_true h1.1
    have k2 := of_decide_eq_true h1.2
    have k3 := of_decide_eq_true h2
    rcases List.mem_cons.1 hb with rfl | hb
    · exact ⟨k1.1, k1.2, k2.1, k2.2, k3⟩
    · exact K.chkL_ok h b hb
/-- What a valid rack is. -/
structure K.Ok (m n : Nat) (bs : List Br) : Prop where
  m1 : 1 ≤ m
  m6 : m ≤ 6
  n1 : 1 ≤ n
  n6 : n ≤ 6
  few : bs.length ≤ 24
  inb : ∀ b ∈ bs, K.InB m n b
  kind : ∀ b ∈ bs, b.2.2 = 0 ∨ b.2.2 = 1 ∨ b.2.2 = 2
theorem K.chk_ok {m n : Int} {bs : List Br} (h : K.chk m n bs = 0) : ∃ p q : Nat, m = p ∧ n = q ∧ K.Ok p q bs := by
  unfold K.chk at h
  split at h
  case isFalse => omega
  rename_i h1
  split at h
  case isFalse => omega
  rename_i h2
  rw [Bool.and_eq_true] at h1
  have k1 := of_decide_eq_true h1.1
  have k2 := of_decide_eq_true h1.2
  have k3 := K.chkL_ok h
  refine ⟨m.toNat, n.toNat, by omega, by omega, by omega, by omega, by omega, by omega, h2, fun b hb => ?_, fun b hb => (k3 b hb).2.2.2.2⟩
  obtain ⟨g1, g2, g3, g4, _⟩ := k3 b hb
  exact ⟨g1, by omega, g3, by omega⟩
theorem K.Ok.chk {m n : Nat} {bs : List Br} (h : K.Ok m n bs) : K.chk m n bs = 0 := by
  have hl : ∀ (l : List Br), (∀ b ∈ l, b ∈ bs) → K.chkL m n l = 0 := fun l => by
    induction l with
    | nil => intro _; rfl
    | cons b l ih =>
      intro hb
      have hin := hb b (List.mem_cons_self ..)
      obtain ⟨g1, g2, g3, g4⟩ := h.inb b hin
      have i1 : K.inn b.1 m = true := decide_eq_true ⟨g1, by omega⟩
      have i2 : K.inn b.2.1 n = true := decide_eq_true ⟨g3, by omega⟩
      have i3 : K.kind b.2.2 = true := decide_eq_true (h.kind b hin)
      rw [K.chkL, i1, i2, if_pos (by rfl), if_pos i3]
      exact ih fun x hx => hb x (List.mem_cons_of_mem _ hx)
  have := h.m1; have := h.m6; have := h.n1; have := h.n6
  have s1 : K.side m = true := decide_eq_true (by omega)
  have s2 : K.side n = true := decide_eq_true (by omega)
  unfold K.chk
  rw [s1, s2, if_pos (by rfl), if_pos h.few]
  exact hl bs fun b hb => hb

/-- The groups of a valid rack. -/
noncomputable def K.gsv (m n : Nat) (bs : List Br) : List (List Int × List Int) := K.gs (K.leads m bs) m (m + n) (m + n)
/-- The groups that are returned, and whether a rack is stiff. -/
noncomputable def K.gsr (m n : Int) (bs : List Br) : List (List Int × List Int) := if K.chk m n bs = 0 then K.gsv m.toNat n.toNat bs else []
noncomputable def K.stf (m n : Int) (bs : List Br) : Bool := if K.chk m n bs = 0 then decide ((K.gsv m.toNat n.toNat bs).length = 1) else false

set_option maxHeartbeats 1000000 in
set_option maxRecDepth 100000 in
theorem isStiff_any (m n : Nat) (a : Option Addr) (c : Nat) (bs : List Br) (w : World) (hm : bs.length ≤ maxLen) (hR : RdB w a bs) (h1 : m ≤ 6) (h2 : n ≤ 6) (hv : ∀ b ∈ bs, K.InB m n b) :
    Calls Try.prog 54 #[K.rk m n a bs.length c] w fun e w' => e = .returned (.bool (decide ((K.gsv m n bs).length = 1))) ∧ Below w.heap.size w w' := by
  have hb0 : Below w.heap.size w (w.alloc (.cells #[.int .i64 (m : Int), .int .i64 (n : Int), .slice a bs.length c] 24)) := (Below.refl _ _).alloc (Nat.le_refl _) _
  have HB0 := hid hb0
  have HAO := hid (groupsOf_any m n a c bs _ hm (hR.stays hb0) h1 h2 hv)
  clear hb0 hR hv
  have HG : Hid (K.gs (K.leads m bs) m (m + n) (m + n) = K.gsv m n bs) := hid rfl
  rw [HG.out] at HAO
  generalize K.gsv m n bs = gs at *
  unfold K.rk at HAO ⊢
  go_enter Try.func54, Try.ntmps54
  go_wp2_with fail
  refine HAO.out.mono ?_
  rintro e w2 ⟨v, lo, hi, rfl, hgs, hb⟩
  obtain ⟨ra, rc, rfl, _⟩ := hgs.rd
  have HB := hid (HB0.out.trans (hb.mono HB0.out.size))
  have HE : Hid (((gs.length : Int) == 1) = decide (gs.length = 1)) := hid (by rw [Bool.eq_iff_iff]; simp; omega)
  clear hgs hb
  go_wp2
  go_ret
  exact ⟨ret_bool HE.out, HB.out⟩
end Go.Proofs.Ytmbfpekcfeeifaa
