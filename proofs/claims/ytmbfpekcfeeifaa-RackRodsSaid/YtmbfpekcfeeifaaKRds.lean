/- How many rods are missing; what the rods that are taken join. -/
import Derived.Test.YtmbfpekcfeeifaaKTrm
namespace Go.Proofs.Ytmbfpekcfeeifaa
open Go.RowKit

/-- The arrows of all rods of a list. -/
def K.all (m : Nat) (M : Nat → Nat → Bool) (rods : List Br) : Nat → Nat → Bool := rods.foldl (fun M b => K.drawn M b.1.toNat (m + b.2.1.toNat) b.2.2) M
theorem K.drawn_le {M : Nat → Nat → Bool} {i j x y : Nat} (h : K.Reach M x y) : K.Reach (K.drawn M i j 0) x y := (K.drawn_reach i j).2 (.inl h)
theorem K.drawn_ends {M : Nat → Nat → Bool} (i j : Nat) : K.Reach (K.drawn M i j 0) i j := .step (K.drawn_iff.2 (.inr (.inl ⟨rfl, rfl⟩))) (.refl _)
theorem K.jo_next (m : Nat) (M : Nat → Nat → Bool) {rods : List Br} (hz : ∀ b ∈ rods, b.2.2 = 0) {k : Nat} (h : k < rods.length) :
    (K.R (K.jo m M (rods.take k)).1 rods[k].1.toNat (m + rods[k].2.1.toNat) = true ∧ (K.jo m M (rods.take (k + 1))).1 = (K.jo m M (rods.take k)).1 ∧ (K.jo m M (rods.take (k + 1))).2.1 = (K.jo m M (rods.take k)).2.1) ∨
    (K.R (K.jo m M (rods.take k)).1 rods[k].1.toNat (m + rods[k].2.1.toNat) = false ∧ (K.jo m M (rods.take (k + 1))).1 = K.drawn (K.jo m M (rods.take k)).1 rods[k].1.toNat (m + rods[k].2.1.toNat) 0 ∧ (K.jo m M (rods.take (k + 1))).2.1 = (K.jo m M (rods.take k)).2.1 ++ [(k : Int)]) := by
  rw [K.jo_take h]
  unfold K.jst
  rw [hz _ (List.getElem_mem h), K.jo_idx m M (Nat.le_of_lt h)]
  cases hR : K.R (K.jo m M (rods.take k)).1 rods[k].1.toNat (m + rods[k].2.1.toNat) with
  | true => exact .inl ⟨rfl, rfl, rfl⟩
  | false => exact .inr ⟨rfl, rfl, rfl⟩
theorem K.jo_sym (m : Nat) {M : Nat → Nat → Bool} (hS : K.Sym M) {rods : List Br} (hz : ∀ b ∈ rods, b.2.2 = 0) : ∀ k, k ≤ rods.length → K.Sym (K.jo m M (rods.take k)).1
  | 0, _ => by rw [List.take_zero]; exact hS
  | k + 1, h => by
    have ih := K.jo_sym m hS hz k (by omega)
    rcases K.jo_next m M hz (show k < rods.length by omega) with ⟨_, e, _⟩ | ⟨_, e, _⟩
    · rw [e]; exact ih
    · rw [e]; exact K.drawn_sym ih _ _
/-- Each rod that is taken: one group fewer. -/
theorem K.jo_groups (m : Nat) {M : Nat → Nat → Bool} (hS : K.Sym M) {rods : List Br} (hz : ∀ b ∈ rods, b.2.2 = 0) {N : Nat} (hN : ∀ b ∈ rods, b.1.toNat < N ∧ m + b.2.1.toNat < N) : ∀ k, k ≤ rods.length → (K.gs (K.jo m M (rods.take k)).1 m N N).length + (K.jo m M (rods.take k)).2.1.length = (K.gs M m N N).length
  | 0, _ => by rw [List.take_zero]; rfl
  | k + 1, h => by
    have ih := K.jo_groups m hS hz hN k (by omega)
    have hs := K.jo_sym m hS hz k (by omega)
    have hn := hN _ (List.getElem_mem (show k < rods.length by omega))
    rcases K.jo_next m M hz (show k < rods.length by omega) with ⟨_, e, e2⟩ | ⟨hR, e, e2⟩
    · rw [e, e2]; exact ih
    · rw [e, e2, List.length_append]
      have := K.drawn_out hs hn.1 hn.2 hR m
      have : [(k : Int)].length = 1 := rfl
      omega
/-- What the taken rods join is what all rods join. -/
theorem K.jo_all (m : Nat) {M : Nat → Nat → Bool} (hS : K.Sym M) {rods : List Br} (hz : ∀ b ∈ rods, b.2.2 = 0) : ∀ k, k ≤ rods.length → ∀ x y, K.Reach (K.jo m M (rods.take k)).1 x y ↔ K.Reach (K.all m M (rods.take k)) x y
  | 0, _, x, y => by rw [List.take_zero]; exact Iff.rfl
  | k + 1, h, x, y => by
    have hk : k < rods.length := by omega
    have ih := K.jo_all m hS hz k (by omega)
    have hs := K.jo_sym m hS hz k (by omega)
    have ea : K.all m M (rods.take (k + 1)) = K.drawn (K.all m M (rods.take k)) rods[k].1.toNat (m + rods[k].2.1.toNat) 0 := by
      unfold K.all
      rw [List.take_succ_eq_append_getElem hk, List.foldl_append]
      show K.drawn _ _ _ rods[k].2.2 = _
      rw [hz _ (List.getElem_mem hk)]
    rw [ea, K.drawn_reach]
    simp only [← ih]
    rcases K.jo_next m M hz hk with ⟨hR, e, _⟩ | ⟨_, e, _⟩
    · rw [e]
      have hr := K.R_iff.1 hR
      constructor
      · exact .inl
      · rintro (h | h | h | h | h)
        · exact h
        · exact (h.1.trans hr).trans h.2
        · exact (h.1.trans (hr.symm hs)).trans h.2
        · exact h.1.trans h.2
        · exact h.1.trans h.2
    · rw [e, K.drawn_reach]
theorem K.all_mono (m : Nat) : ∀ (l : List Br) (M : Nat → Nat → Bool), (∀ b ∈ l, b.2.2 = 0) → ∀ x y, K.Reach M x y → K.Reach (K.all m M l) x y
  | [], _, _, _, _, h => h
  | b :: l, M, hl, x, y, h => by
    show K.Reach (K.all m (K.drawn M _ _ b.2.2) l) x y
    rw [hl b List.mem_cons_self]
    exact K.all_mono m l _ (fun b hb => hl b (List.mem_cons_of_mem _ hb)) x y (K.drawn_le h)
theorem K.all_ends (m : Nat) : ∀ (l : List Br) (M : Nat → Nat → Bool), (∀ b ∈ l, b.2.2 = 0) → ∀ b ∈ l, K.Reach (K.all m M l) b.1.toNat (m + b.2.1.toNat)
  | [], _, _, _, h => by cases h
  | c :: l, M, hl, b, h => by
    show K.Reach (K.all m (K.drawn M _ _ c.2.2) l) _ _
    rw [hl c List.mem_cons_self]
    have hl2 : ∀ b ∈ l, b.2.2 = 0 := fun b hb => hl b (List.mem_cons_of_mem _ hb)
    rcases List.mem_cons.1 h with rfl | h
    · exact K.all_mono m l _ hl2 _ _ (K.drawn_ends _ _)
    · exact K.all_ends m l _ hl2 b h
theorem K.all_sym (m : Nat) : ∀ (l : List Br) (M : Nat → Nat → Bool), (∀ b ∈ l, b.2.2 = 0) → K.Sym M → K.Sym (K.all m M l)
  | [], _, _, h => h
  | b :: l, M, hl, h => by
    show K.Sym (K.all m (K.drawn M _ _ b.2.2) l)
    rw [hl b List.mem_cons_self]
    exact K.all_sym m l _ (fun b hb => hl b (List.mem_cons_of_mem _ hb)) (K.drawn_sym h _ _)
/-- A rod at every square joins all. -/
theorem K.evs_join {m n : Nat} (hm : 1 ≤ m) (hn : 1 ≤ n) {M : Nat → Nat → Bool} (hS : K.Sym M) {x y : Nat} (hx : x < m + n) (hy : y < m + n) : K.Reach (K.all m M (K.evs n m)) x y := by
  have hz : ∀ b ∈ K.evs n m, b.2.2 = 0 := fun b hb => by obtain ⟨i, j, _, _, rfl⟩ := K.evs_mem.1 hb; rfl
  have hs := K.all_sym m (K.evs n m) M hz hS
  have sq : ∀ i j, i < m → j < n → K.Reach (K.all m M (K.evs n m)) i (m + j) := fun i j hi hj => by
    have := K.all_ends m (K.evs n m) M hz ((i : Int), (j : Int), 0) (K.evs_mem.2 ⟨i, j, hi, hj, rfl⟩)
    simpa using this
  have h0 : ∀ z, z < m + n → K.Reach (K.all m M (K.evs n m)) 0 z := fun z hz' => by
    by_cases h : z < m
    · exact (sq 0 0 (by omega) (by omega)).trans ((sq z 0 h (by omega)).symm hs)
    · have := sq 0 (z - m) (by omega) (by omega)
      rwa [show m + (z - m) = z by omega] at this
  exact ((h0 x hx).symm hs).trans (h0 y hy)
theorem K.gs_all {M : Nat → Nat → Bool} {N : Nat} (h1 : 1 ≤ N) (h : ∀ x y, x < N → y < N → K.Reach M x y) (m : Nat) : (K.gs M m N N).length = 1 := by
  obtain ⟨k, rfl⟩ : ∃ k, N = k + 1 := ⟨N - 1, by omega⟩
  exact (K.gs_one M m (k + 1) k).2.2 fun x hx => K.T_iff.2 ⟨h 0 x (by omega) (by omega), h x 0 (by omega) (by omega)⟩
/-- As many rods are missing as the freedom says. -/
theorem K.msg_len {p q : Nat} {bs : List Br} (h : K.chr p q bs = 0) : ((K.msg p q bs).length : Int) = K.fre p q bs := by
  obtain ⟨h1, h2⟩ := K.chr_zero h
  obtain ⟨p', q', e1, e2, hok⟩ := K.chk_ok h1
  have hp : 1 ≤ p := by have := hok.m1; omega
  have hq : 1 ≤ q := by have := hok.n1; omega
  have hz : ∀ b ∈ K.evs q p, b.2.2 = 0 := fun b hb => by obtain ⟨i, j, _, _, rfl⟩ := K.evs_mem.1 hb; rfl
  have hS := K.leads_sym p h2
  have hN : ∀ b ∈ K.evs q p, b.1.toNat < p + q ∧ p + b.2.1.toNat < p + q := fun b hb => by
    obtain ⟨i, j, h3, h4, rfl⟩ := K.evs_mem.1 hb
    simp only [Int.toNat_natCast]
    omega
  have hg := K.jo_groups p hS hz hN _ (Nat.le_refl _)
  rw [List.take_length] at hg
  have ha := K.jo_all p hS hz _ (Nat.le_refl _)
  rw [List.take_length] at ha
  have h1g := K.gs_all (M := (K.jo p (K.leads p bs) (K.evs q p)).1) (N := p + q) (by omega) (fun x y hx hy => (ha x y).2 (K.evs_join hp hq hS hx hy)) p
  rw [K.fre_rods h]
  unfold K.msg
  rw [if_pos h, K.pick_len]
  simp only [Int.toNat_natCast]
  omega
theorem K.chr_mk {p q : Nat} {bs S : List Br} (h : K.chr p q bs = 0) (hl : S.length ≤ 24) (hs : ∀ b ∈ S, K.InB p q b ∧ b.2.2 = 0) : K.chr p q S = 0 := by
  obtain ⟨h1, _⟩ := K.chr_zero h
  have hc : K.chk p q S = 0 := by
    unfold K.chk at h1 ⊢
    split at h1
    case isFalse => omega
    rename_i e1
    rw [if_pos e1, if_pos hl]
    refine K.chkL_zero.2 fun b hb => ?_
    obtain ⟨⟨g1, g2, g3, g4⟩, g5⟩ := hs b hb
    exact ⟨by unfold K.inn; rw [decide_eq_true ⟨g1, g2⟩, decide_eq_true ⟨g3, g4⟩]; rfl, by unfold K.kind; exact decide_eq_true (.inl g5)⟩
  unfold K.chr
  rw [if_pos hc]
  exact K.rodL_zero.2 fun b hb => (hs b hb).2
/-- The rods that are taken are few. -/
theorem K.sm_few {p q : Nat} (hp : 1 ≤ p ∧ p ≤ 6) (hq : q ≤ 6) {B : List Br} (hz : ∀ b ∈ B, K.InB p q b ∧ b.2.2 = 0) {k : Nat} (hk : k ≤ B.length) : (K.sm p (K.leads p []) B k).length ≤ 11 := by
  have hN : ∀ b ∈ B, b.1.toNat < p + q ∧ p + b.2.1.toNat < p + q := fun b hb => by
    obtain ⟨g1, g2, g3, g4⟩ := (hz b hb).1
    omega
  have hg := K.jo_groups p (K.leads_sym p (bs := []) (fun b hb => by cases hb)) (fun b hb => (hz b hb).2) hN k hk
  have h1 := K.gs_len (K.leads p []) p (p + q) (p + q)
  have h2 : 1 ≤ (K.gs (K.jo p (K.leads p []) (B.take k)).1 p (p + q) (p + q)).length := by
    obtain ⟨j, hj⟩ : ∃ j, p + q = j + 1 := ⟨p + q - 1, by omega⟩
    rw [hj]
    exact (K.gs_one _ p (j + 1) j).1
  unfold K.sm
  rw [K.pick_len]
  omega
/-- The rods of a rack with those that are missing. -/
theorem K.full {p q : Nat} {bs : List Br} (h : K.chr p q bs = 0) : ∀ b ∈ bs ++ K.msg p q bs, K.InB p q b ∧ b.2.2 = 0 := fun b hb => by
  obtain ⟨h1, h2⟩ := K.chr_zero h
  obtain ⟨p', q', e1, e2, hok⟩ := K.chk_ok h1
  have e1' : p' = p := by omega
  have e2' : q' = q := by omega
  subst e1' e2'
  rcases List.mem_append.1 hb with hb | hb
  · exact ⟨hok.inb b hb, h2 b hb⟩
  · have hb2 : b ∈ K.evs q' p' := by
      unfold K.msg at hb
      rw [if_pos h] at hb
      simp only [Int.toNat_natCast] at hb
      have := (K.sm_mem (m := p') (M := K.leads p' bs) (rods := K.evs q' p') _ (Nat.le_refl _)).1 b
      unfold K.sm at this
      rw [List.take_length] at this
      exact this hb
    exact ⟨K.evs_inb b hb2, by obtain ⟨i, j, _, _, rfl⟩ := K.evs_mem.1 hb2; rfl⟩
theorem K.all_app (m : Nat) (M : Nat → Nat → Bool) (a b : List Br) : K.all m M (a ++ b) = K.all m (K.all m M a) b := by unfold K.all; rw [List.foldl_append]
/-- With the missing rods a rack is stiff; so are the few of all that join something. -/
theorem K.full_stiff {p q : Nat} {bs : List Br} (h : K.chr p q bs = 0) : K.stf p q (K.sm p (K.leads p []) (bs ++ K.msg p q bs) (bs ++ K.msg p q bs).length) = true := by
  have hf := K.full h
  obtain ⟨h1, h2⟩ := K.chr_zero h
  obtain ⟨p', q', e1, e2, hok⟩ := K.chk_ok h1
  have hp : 1 ≤ p ∧ p ≤ 6 := by have := hok.m1; have := hok.m6; omega
  have hq : 1 ≤ q ∧ q ≤ 6 := by have := hok.n1; have := hok.n6; omega
  have hS0 : K.Sym (K.leads p []) := K.leads_sym p (bs := []) (fun b hb => by cases hb)
  have hmem := K.sm_mem (m := p) (M := K.leads p []) (rods := bs ++ K.msg p q bs) _ (Nat.le_refl _)
  have hc := K.chr_mk h (by have := K.sm_few hp hq.2 hf (Nat.le_refl _); omega) (fun b hb => hf b (hmem.1 b hb))
  rw [K.stf_iff (K.chr_zero hc).1 (by omega)]
  intro x y hx hy
  rw [← K.sm_leads p (Nat.le_refl _)]
  refine (K.jo_all p hS0 (fun b hb => (hf b hb).2) _ (Nat.le_refl _) x y).2 ?_
  rw [List.take_length, K.all_app]
  have ea : K.all p (K.leads p []) bs = K.leads p bs := rfl
  rw [ea]
  have hz : ∀ b ∈ K.evs q p, b.2.2 = 0 := fun b hb => by obtain ⟨i, j, _, _, rfl⟩ := K.evs_mem.1 hb; rfl
  have hS := K.leads_sym p h2
  have hm : K.all p (K.leads p bs) (K.msg p q bs) = (K.jo p (K.leads p bs) (K.evs q p)).1 := by
    have := K.jo_fst p (K.leads p bs) (K.evs q p) _ (Nat.le_refl _)
    rw [List.take_length] at this
    rw [this]
    unfold K.all K.msg K.sm
    rw [if_pos h, List.take_length]
    simp only [Int.toNat_natCast]
  rw [hm]
  have ha := K.jo_all p hS hz _ (Nat.le_refl _)
  rw [List.take_length] at ha
  exact (ha x y).2 (K.evs_join hp.1 hq.1 hS hx hy)
end Go.Proofs.Ytmbfpekcfeeifaa
