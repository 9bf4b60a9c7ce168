/- Package fold: the walk of spansOf. -/
import Derived.Test.YthaplnkmjggcfaaFOwn
import Derived.Deep.OwnRows
import Derived.Deep.DeepCutAuto
namespace Go.Proofs.Ythaplnkmjggcfaa
open Go.RowKit

/-- Where the segments begin. -/
def F.pt (l : List Int) : Nat → Int
  | 0 => 0
  | k + 1 => if k % 2 = 1 then F.pt l k - l.getD k 0 else F.pt l k + l.getD k 0

def F.lo (l : List Int) (k : Nat) : Int := min (F.pt l k) (F.pt l (k + 1))
def F.hi (l : List Int) (k : Nat) : Int := max (F.pt l k) (F.pt l (k + 1))

/-- The cells of the spans when k of them are laid. -/
def F.spn (l : List Int) (k j : Nat) : Int := if j < 2 * k then (if j % 2 = 0 then F.lo l (j / 2) else F.hi l (j / 2)) else 0

theorem F.pt_bound {l : List Int} (h : ∀ k (hk : k < l.length), 1 ≤ l[k] ∧ l[k] ≤ 350) : ∀ k, k ≤ l.length → -(350 * (k : Int)) ≤ F.pt l k ∧ F.pt l k ≤ 350 * (k : Int) := by
  intro k
  induction k with
  | zero => intro _; simp [F.pt]
  | succ k ih =>
    intro hk
    have h1 := ih (by omega)
    have h2 := h k (by omega)
    rw [F.pt, F.getD_at (show k < l.length by omega)]
    split <;> omega

theorem F.spn_step (l : List Int) (k j : Nat) : F.spn l (k + 1) j = if j = 2 * k + 1 then F.hi l k else if j = 2 * k then F.lo l k else F.spn l k j := by
  unfold F.spn
  by_cases e1 : j = 2 * k + 1
  · subst e1
    rw [if_pos (by omega), if_neg (by omega), if_pos rfl, show (2 * k + 1) / 2 = k from by omega]
  · rw [if_neg e1]
    by_cases e2 : j = 2 * k
    · subst e2
      rw [if_pos (by omega), if_pos (by omega), if_pos rfl, show 2 * k / 2 = k from by omega]
    · rw [if_neg e2]
      by_cases h : j < 2 * k
      · rw [if_pos h, if_pos (by omega)]
      · rw [if_neg h, if_neg (by omega)]

/-- The spans as a value. -/
def F.spanV (l : List Int) : Value := .agg #[.int .i64 (F.spn l l.length 0), .int .i64 (F.spn l l.length 1), .int .i64 (F.spn l l.length 2), .int .i64 (F.spn l l.length 3), .int .i64 (F.spn l l.length 4), .int .i64 (F.spn l l.length 5), .int .i64 (F.spn l l.length 6), .int .i64 (F.spn l l.length 7), .int .i64 (F.spn l l.length 8), .int .i64 (F.spn l l.length 9), .int .i64 (F.spn l l.length 10), .int .i64 (F.spn l l.length 11), .int .i64 (F.spn l l.length 12), .int .i64 (F.spn l l.length 13)]

theorem row14 {w : World} {b : Nat} {t : TypeId} {f : Nat → Value} (h : w.rowIs b t 14 f) : w.heap[b]? = some (.cells #[f 0, f 1, f 2, f 3, f 4, f 5, f 6, f 7, f 8, f 9, f 10, f 11, f 12, f 13] t (0, 0)) := by
  obtain ⟨c, hb, hn, hc⟩ := h
  rw [hb]
  congr 2
  refine Array.ext (by rw [hn]; rfl) (fun i h1 h2 => ?_)
  have h3 := hc i (by omega)
  rw [Array.getElem?_eq_getElem h1] at h3
  have h4 : i = 0 ∨ i = 1 ∨ i = 2 ∨ i = 3 ∨ i = 4 ∨ i = 5 ∨ i = 6 ∨ i = 7 ∨ i = 8 ∨ i = 9 ∨ i = 10 ∨ i = 11 ∨ i = 12 ∨ i = 13 := by omega
  rcases h4 with rfl | rfl | rfl | rfl | rfl | rfl | rfl | rfl | rfl | rfl | rfl | rfl | rfl | rfl <;> exact Option.some.inj h3

theorem below_setRow {B : Nat} {w a : World} (h : Below B w a) (g : Nat) (cs : Array Value) (hg : B ≤ g) : Below B w (a.setRow g cs) :=
  h.trans ⟨rfl, rfl, rfl, by simp [World.setRow], fun k hk => by simp [World.setRow, Array.getElem?_modify]; intro e; omega⟩

theorem F.spn_set {w : World} {b : Nat} {t : TypeId} {l : List Int} {k : Nat} {p q : Int} (h : w.rowIs b t 14 (fun j => .int .i64 (F.spn l k j))) (e1 : F.lo l k = p) (e2 : F.hi l k = q) :
    ((w.setCell ⟨b, k * 2, none⟩ (.int .i64 p)).setCell ⟨b, k * 2 + 1, none⟩ (.int .i64 q)).rowIs b t 14 (fun j => .int .i64 (F.spn l (k + 1) j)) := by
  refine ((h.set (k * 2) (.int .i64 p)).set (k * 2 + 1) (.int .i64 q)).congr fun j _ => ?_
  rw [F.spn_step, e1, e2, Nat.mul_comm k 2]
  by_cases h1 : j = 2 * k + 1
  · rw [if_pos h1, if_pos h1]
  · rw [if_neg h1, if_neg h1]
    by_cases h2 : j = 2 * k
    · rw [if_pos h2, if_pos h2]
    · rw [if_neg h2, if_neg h2]

theorem F.zero_at : ∀ i, i < (#[.int .i64 0, .int .i64 0, .int .i64 0, .int .i64 0, .int .i64 0, .int .i64 0, .int .i64 0, .int .i64 0, .int .i64 0, .int .i64 0, .int .i64 0, .int .i64 0, .int .i64 0, .int .i64 0] : Array Value).size → (#[.int .i64 0, .int .i64 0, .int .i64 0, .int .i64 0, .int .i64 0, .int .i64 0, .int .i64 0, .int .i64 0, .int .i64 0, .int .i64 0, .int .i64 0, .int .i64 0, .int .i64 0, .int .i64 0] : Array Value)[i]? = some (Value.int .i64 0)
  | 0, _ => rfl
  | 1, _ => rfl
  | 2, _ => rfl
  | 3, _ => rfl
  | 4, _ => rfl
  | 5, _ => rfl
  | 6, _ => rfl
  | 7, _ => rfl
  | 8, _ => rfl
  | 9, _ => rfl
  | 10, _ => rfl
  | 11, _ => rfl
  | 12, _ => rfl
  | 13, _ => rfl
  | n + 14, h => absurd h (by simp)

set_option maxHeartbeats 4000000 in
set_option maxRecDepth 100000 in
theorem spansOf_any (a : Option Addr) (c : Nat) (l : List Int) (w : World) (h7 : l.length ≤ 7) (hg : ∀ k (hk : k < l.length), 1 ≤ l[k] ∧ l[k] ≤ 350) (hx : RdI w a l) :
    Calls Try.prog 45 #[.slice a l.length c] w fun e w' => e = .returned (F.spanV l) ∧ Below w.heap.size w w' := by
  have HX := hid hx
  have HG := hid hg
  have HPT := hid (F.pt_bound hg)
  clear hx hg
  go_enter Try.func45, Try.ntmps45
  go_wp2_with fail
  have hr1 : ((w.alloc (.cells #[.int .i64 0, .int .i64 0, .int .i64 0, .int .i64 0, .int .i64 0, .int .i64 0, .int .i64 0, .int .i64 0, .int .i64 0, .int .i64 0, .int .i64 0, .int .i64 0, .int .i64 0, .int .i64 0] 69)).alloc (.cells #[.int .i64 0, .int .i64 0, .int .i64 0, .int .i64 0, .int .i64 0, .int .i64 0, .int .i64 0, .int .i64 0, .int .i64 0, .int .i64 0, .int .i64 0, .int .i64 0, .int .i64 0, .int .i64 0] 69)).rowIs (w.heap.size + 1) 69 14 (fun j => .int .i64 (F.spn l 0 j)) := by
    have h := World.rowIs_alloc (w.alloc (.cells #[.int .i64 0, .int .i64 0, .int .i64 0, .int .i64 0, .int .i64 0, .int .i64 0, .int .i64 0, .int .i64 0, .int .i64 0, .int .i64 0, .int .i64 0, .int .i64 0, .int .i64 0, .int .i64 0] 69)) _ 69 _ F.zero_at
    rw [show (w.alloc (.cells #[.int .i64 0, .int .i64 0, .int .i64 0, .int .i64 0, .int .i64 0, .int .i64 0, .int .i64 0, .int .i64 0, .int .i64 0, .int .i64 0, .int .i64 0, .int .i64 0, .int .i64 0, .int .i64 0] 69)).heap.size = w.heap.size + 1 from by simp] at h
    exact h.congr (fun j _ => by unfold F.spn; rw [if_neg (by omega)])
  have HR1 := hid hr1
  have HB1 := hid (((Below.refl w.heap.size w).alloc (Nat.le_refl _) (.cells #[.int .i64 0, .int .i64 0, .int .i64 0, .int .i64 0, .int .i64 0, .int .i64 0, .int .i64 0, .int .i64 0, .int .i64 0, .int .i64 0, .int .i64 0, .int .i64 0, .int .i64 0, .int .i64 0] 69)).alloc (by simp) (.cells #[.int .i64 0, .int .i64 0, .int .i64 0, .int .i64 0, .int .i64 0, .int .i64 0, .int .i64 0, .int .i64 0, .int .i64 0, .int .i64 0, .int .i64 0, .int .i64 0, .int .i64 0, .int .i64 0] 69))
  have HR0 : Hid (((w.alloc (.cells #[.int .i64 0, .int .i64 0, .int .i64 0, .int .i64 0, .int .i64 0, .int .i64 0, .int .i64 0, .int .i64 0, .int .i64 0, .int .i64 0, .int .i64 0, .int .i64 0, .int .i64 0, .int .i64 0] 69)).alloc (.cells #[.int .i64 0, .int .i64 0, .int .i64 0, .int .i64 0, .int .i64 0, .int .i64 0, .int .i64 0, .int .i64 0, .int .i64 0, .int .i64 0, .int .i64 0, .int .i64 0, .int .i64 0, .int .i64 0] 69)).rowIs w.heap.size 69 14 (fun _ => .int .i64 0)) := hid ((World.rowIs_alloc w _ 69 _ F.zero_at).alloc _)
  clear hr1
  generalize (w.alloc (.cells #[.int .i64 0, .int .i64 0, .int .i64 0, .int .i64 0, .int .i64 0, .int .i64 0, .int .i64 0, .int .i64 0, .int .i64 0, .int .i64 0, .int .i64 0, .int .i64 0, .int .i64 0, .int .i64 0] 69)).alloc (.cells #[.int .i64 0, .int .i64 0, .int .i64 0, .int .i64 0, .int .i64 0, .int .i64 0, .int .i64 0, .int .i64 0, .int .i64 0, .int .i64 0, .int .i64 0, .int .i64 0, .int .i64 0, .int .i64 0] 69) = w1 at *
  go_loopw [4, 10] (fun t i wr => ∃ k : Nat, k ≤ l.length ∧ i = .int .i64 k ∧ t = .int .i64 (F.pt l k) ∧ wr.rowIs (w.heap.size + 1) 69 14 (fun j => .int .i64 (F.spn l k j)) ∧ wr.rowIs w.heap.size 69 14 (fun _ => .int .i64 0) ∧ Below w.heap.size w wr) (fun _ i _ => l.length - (intOf i).toNat)
  case atStart => exact ⟨0, Nat.zero_le _, rfl, rfl, HR1.out, HR0.out, HB1.out⟩
  case round =>
    clear HR1 HR0 HB1
    obtain ⟨k, hk, rfl, rfl, hr, hr0, hb⟩ := hrel
    have HR := hid hr
    have HR0 := hid hr0
    have HB := hid hb
    clear hr hr0 hb
    by_cases hkl : k < l.length
    · obtain ⟨b, off, rfl, hc⟩ := (HX.out.stays HB.out) k hkl
      have hgk := HG.out k hkl
      have hp1 := HPT.out k hk
      have hp2 := HPT.out (k + 1) hkl
      have y1 := HR.out.cell (i := k * 2) (by omega)
      have y2 := HR.out.cell (i := k * 2 + 1) (by omega)
      have f1 := HR.out.frozen (k * 2)
      have f2 := HR.out.frozen (k * 2 + 1)
      have HST := hid (F.spn_step l k)
      have hpt : F.pt l (k + 1) = if k % 2 = 1 then F.pt l k - l[k] else F.pt l k + l[k] := by rw [F.pt, F.getD_at hkl]
      have HLO : Hid (F.lo l k = min (F.pt l k) (F.pt l (k + 1))) := hid rfl
      have HHI : Hid (F.hi l k = max (F.pt l k) (F.pt l (k + 1))) := hid rfl
      generalize l[k] = x at *
      generalize F.spn l k (k * 2) = o1 at *
      generalize F.spn l k (k * 2 + 1) = o2 at *
      generalize hqe : F.pt l (k + 1) = q at *
      have HQE := hid hqe
      generalize hte : F.pt l k = t at *
      have hk2 : (k : Int).tmod 2 = ((k % 2 : Nat) : Int) := by rw [Int.tmod_eq_emod_of_nonneg (by omega)]; simp
      have hk3 : (k : Int) % 2 = ((k % 2 : Nat) : Int) := by simp
      have ii1 : (0 : Int) ≤ (k : Int) ∧ (k : Int) < 7 := by omega
      clear hqe hte
      obtain ⟨g1, g2⟩ := hgk
      obtain ⟨p1, p2⟩ := hp1
      obtain ⟨p3, p4⟩ := hp2
      have y3 : ∀ v, (wr.setCell ⟨w.heap.size + 1, k * 2, none⟩ v).cell? ⟨w.heap.size + 1, k * 2 + 1, none⟩ = some (.int .i64 o2) := fun v => by
        rw [← y2]; exact World.cell?_setCell_other _ _ _ _ (fun e => by simp at e)
      have f3 : ∀ v, (wr.setCell ⟨w.heap.size + 1, k * 2, none⟩ v).frozen? ⟨w.heap.size + 1, k * 2 + 1, none⟩ = false := fun v => by
        rw [← f2]; exact World.frozen?_setCell _ _ _ _
      by_cases hpar : k % 2 = 1
      · rw [if_pos hpar] at hpt
        rw [hpar] at hk2 hk3
        have hq : t - x = q := hpt.symm
        have hqt : q < t := by omega
        have HL2 : Hid (F.lo l k = q) := hid (by rw [HLO.out]; omega)
        have HH2 : Hid (F.hi l k = t) := hid (by rw [HHI.out]; omega)
        have htn : ¬ t < q := by omega
        clear hpt
        go_wp2_with fail
        refine ⟨⟨k + 1, by omega, rfl, by rw [HQE.out], F.spn_set HR.out HL2.out HH2.out, (HR0.out.setOther (by simp) _).setOther (by simp) _, (HB.out.setCell (by simp) _).setCell (by simp) _⟩, by simp [intOf]; omega⟩
      · rw [if_neg hpar] at hpt
        have hpar0 : k % 2 = 0 := by omega
        rw [hpar0] at hk2 hk3
        have hq : t + x = q := hpt.symm
        have hqt : t < q := by omega
        have HL2 : Hid (F.lo l k = t) := hid (by rw [HLO.out]; omega)
        have HH2 : Hid (F.hi l k = q) := hid (by rw [HHI.out]; omega)
        have htn : ¬ q < t := by omega
        clear hpt
        go_wp2_with fail
        refine ⟨⟨k + 1, by omega, rfl, by rw [HQE.out], F.spn_set HR.out HL2.out HH2.out, (HR0.out.setOther (by simp) _).setOther (by simp) _, (HB.out.setCell (by simp) _).setCell (by simp) _⟩, by simp [intOf]; omega⟩
    · have hke : k = l.length := by omega
      subst hke
      have g1 := row14 HR.out
      have g0 := row14 HR0.out
      go_wp2_with (first
        | (refine wpList_load_row rfl 69 _ rfl (w.heap.size + 1) rfl 69 _ (0, 0) _ g1 Try.underlying69 rfl (by kernel_rfl) ?_)
        | (refine wpList_store_row rfl 69 _ _ rfl w.heap.size _ rfl rfl 69 _ g0 ?q1 ?q2 ?q3 ?_))
      case q1 => kernel_rfl
      case q2 => rfl
      case q3 => simp [Value.oneCell']
      exact bodyPost_ret (results_cell_row rfl _ _ w.heap.size 69 _ (0, 0) _ rfl (setRow_heap _ _ _ _ _ _ g0) Try.underlying69 rfl (by kernel_rfl)) rfl ⟨rfl, below_setRow HB.out _ _ (Nat.le_refl _)⟩

end Go.Proofs.Ythaplnkmjggcfaa
