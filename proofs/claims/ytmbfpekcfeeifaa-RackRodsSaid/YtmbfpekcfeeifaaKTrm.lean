/- Which rods join: the freedom falls just if a rod's ends did not keep together. -/
import Derived.Test.YtmbfpekcfeeifaaKMsg
import Derived.Test.YtmbfpekcfeeifaaKCls
import Derived.Test.YtmbfpekcfeeifaaKRNdd
namespace Go.Proofs.Ytmbfpekcfeeifaa
open Go.RowKit

/-- The braces taken among the first ones. -/
noncomputable def K.sm (m : Nat) (M : Nat → Nat → Bool) (rods : List Br) (k : Nat) : List Br := K.pick rods (K.jo m M (rods.take k)).2.1
theorem K.jo_idx (m : Nat) (M : Nat → Nat → Bool) {rods : List Br} {k : Nat} (h : k ≤ rods.length) : (K.jo m M (rods.take k)).2.2 = k := by
  unfold K.jo; rw [K.jo_cnt, List.length_take]; simp; omega
theorem K.sm_zero (m : Nat) (M : Nat → Nat → Bool) (rods : List Br) : K.sm m M rods 0 = [] := by
  unfold K.sm K.jo; rw [List.take_zero]; rfl
theorem K.sm_succ (m : Nat) (M : Nat → Nat → Bool) {rods : List Br} {k : Nat} (h : k < rods.length) :
    K.sm m M rods (k + 1) = if K.R (K.jo m M (rods.take k)).1 rods[k].1.toNat (m + rods[k].2.1.toNat) = true then K.sm m M rods k else K.sm m M rods k ++ [rods[k]] := by
  have hi := K.jo_idx m M (Nat.le_of_lt h)
  unfold K.sm
  rw [K.jo_take h]
  unfold K.jst
  simp only []
  split
  · rfl
  · rw [hi]
    unfold K.pick
    rw [List.map_append, List.map_singleton]
    simp [h]
theorem K.jo_fst (m : Nat) (M : Nat → Nat → Bool) (rods : List Br) : ∀ k, k ≤ rods.length → (K.jo m M (rods.take k)).1 = (K.sm m M rods k).foldl (fun M b => K.drawn M b.1.toNat (m + b.2.1.toNat) b.2.2) M
  | 0, _ => by rw [K.sm_zero]; unfold K.jo; rw [List.take_zero]; rfl
  | k + 1, h => by
    have ih := K.jo_fst m M rods k (by omega)
    rw [K.sm_succ m M (show k < rods.length by omega), K.jo_take (show k < rods.length by omega)]
    unfold K.jst
    simp only []
    split
    · exact ih
    · rw [List.foldl_append, ← ih]; rfl
theorem K.sm_leads (m : Nat) {bs : List Br} {k : Nat} (h : k ≤ bs.length) : (K.jo m (K.leads m []) (bs.take k)).1 = K.leads m (K.sm m (K.leads m []) bs k) := K.jo_fst m _ bs k h
theorem K.sm_mem {m : Nat} {M : Nat → Nat → Bool} {rods : List Br} : ∀ k, k ≤ rods.length → (∀ b ∈ K.sm m M rods k, b ∈ rods) ∧ (K.sm m M rods k).length ≤ k
  | 0, _ => by rw [K.sm_zero]; exact ⟨(fun b hb => by cases hb), Nat.le_refl _⟩
  | k + 1, h => by
    obtain ⟨h1, h2⟩ := K.sm_mem (m := m) (M := M) (rods := rods) k (by omega)
    rw [K.sm_succ m M (show k < rods.length by omega)]
    split
    · exact ⟨h1, by omega⟩
    · refine ⟨fun b hb => ?_, by rw [List.length_append]; have : [rods[k]].length = 1 := rfl; omega⟩
      rcases List.mem_append.1 hb with hb | hb
      · exact h1 b hb
      · rw [List.mem_singleton.1 hb]; exact List.getElem_mem _
/-- A part of a rack of rods. -/
theorem K.chr_sub {m n : Int} {bs S : List Br} (h : K.chr m n bs = 0) (hl : S.length ≤ bs.length) (hs : ∀ b ∈ S, b ∈ bs) : K.chr m n S = 0 := by
  obtain ⟨h1, h2⟩ := K.chr_zero h
  have hc : K.chk m n S = 0 := by
    unfold K.chk at h1 ⊢
    split at h1
    case isFalse => omega
    rename_i e1
    split at h1
    case isFalse => omega
    rename_i e2
    rw [if_pos e1, if_pos (by omega)]
    exact K.chkL_zero.2 fun b hb => K.chkL_zero.1 h1 b (hs b hb)
  unfold K.chr
  rw [if_pos hc]
  exact K.rodL_zero.2 fun b hb => h2 b (hs b hb)
theorem K.fre_rods {p q : Nat} {S : List Br} (h : K.chr p q S = 0) : K.fre p q S = ((K.gs (K.leads p S) p (p + q) (p + q)).length : Int) - 1 := by
  unfold K.fre K.gsv
  rw [if_pos h]
  simp
theorem K.leads_snoc (m : Nat) (S : List Br) (b : Br) : K.leads m (S ++ [b]) = K.drawn (K.leads m S) b.1.toNat (m + b.2.1.toNat) b.2.2 := by
  unfold K.leads; rw [List.foldl_append]; rfl
/-- One rod more, among those of a rack of rods. -/
theorem K.fre_one {p q : Nat} {S : List Br} {b : Br} (h : K.chr p q (S ++ [b]) = 0) :
    (K.R (K.leads p S) b.1.toNat (p + b.2.1.toNat) = true → K.fre p q (S ++ [b]) = K.fre p q S) ∧ (K.R (K.leads p S) b.1.toNat (p + b.2.1.toNat) = false → K.fre p q (S ++ [b]) + 1 = K.fre p q S) := by
  have hS : K.chr p q S = 0 := K.chr_sub h (by rw [List.length_append]; omega) (fun b hb => List.mem_append_left _ hb)
  have hz : b.2.2 = 0 := (K.chr_zero h).2 b (List.mem_append_right _ (List.mem_singleton.2 rfl))
  have hsym := K.leads_sym p (K.chr_zero hS).2
  obtain ⟨p', q', e1, e2, hok⟩ := K.chk_ok (K.chr_zero h).1
  have hin := hok.inb b (List.mem_append_right _ (List.mem_singleton.2 rfl))
  obtain ⟨g1, g2, g3, g4⟩ := hin
  rw [K.fre_rods h, K.fre_rods hS, K.leads_snoc, hz]
  constructor
  · intro hR
    rw [K.drawn_in hsym hR]
  · intro hR
    have := K.drawn_out hsym (N := p + q) (by omega) (by omega) hR p
    omega
/-- What the freedom does at each brace of a rack of rods. -/
theorem K.fre_step {p q : Nat} {bs : List Br} (h : K.chr p q bs = 0) {k : Nat} (hk : k < bs.length) :
    K.fre p q (K.sm p (K.leads p []) bs k ++ [bs[k]]) = (if K.R (K.jo p (K.leads p []) (bs.take k)).1 bs[k].1.toNat (p + bs[k].2.1.toNat) = true then K.fre p q (K.sm p (K.leads p []) bs k) else K.fre p q (K.sm p (K.leads p []) bs k) - 1) := by
  obtain ⟨h1, h2⟩ := K.sm_mem (m := p) (M := K.leads p []) (rods := bs) k (by omega)
  have hc : K.chr p q (K.sm p (K.leads p []) bs k ++ [bs[k]]) = 0 := K.chr_sub h (by rw [List.length_append]; have : [bs[k]].length = 1 := rfl; omega) (fun b hb => by
    rcases List.mem_append.1 hb with hb | hb
    · exact h1 b hb
    · rw [List.mem_singleton.1 hb]; exact List.getElem_mem _)
  rw [K.sm_leads p (Nat.le_of_lt hk)]
  split
  · rename_i hR; exact (K.fre_one hc).1 hR
  · rename_i hR; have := (K.fre_one hc).2 (by simpa using hR); omega
end Go.Proofs.Ytmbfpekcfeeifaa
