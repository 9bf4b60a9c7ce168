/- Package tuschelaw07: made once more: its rows have room for what they hold. -/
import Derived.Test.YthlcnklbeolhpaaHHalE
import Derived.BigQuiet
import Derived.Deep.RegionHeld3
import Derived.Deep.RegionLaw
import Derived.Deep.AppendLies
import Derived.Maps.AppendAt
namespace Go.Proofs.Ythlcnklbeolhpaa
open Go.RowKit

/-- Each row has room for what it holds. -/
def H.Caps (w : World) (a : Option Addr) (T : List (List Int)) : Prop := ∀ k (h : k < T.length), ∃ b off r c, a = some ⟨b, off, none⟩ ∧ w.cell? ⟨b, off + k, none⟩ = some (.slice r T[k].length c) ∧ T[k].length ≤ c
theorem RowI.form2 {w : World} {lo : Nat} {v : Value} {xs : List Int} (h : RowI w lo v xs) (h0 : 0 < xs.length) : ∃ g cap, v = .slice (some ⟨g, 0, none⟩) xs.length cap ∧ lo ≤ g ∧ g < w.heap.size ∧ RdI w (some ⟨g, 0, none⟩) xs ∧ xs.length ≤ cap := by
  obtain ⟨g, cap, rfl, h1, h2, h3⟩ := h.form h0
  refine ⟨g, cap, rfl, h1, h2, h3, ?_⟩
  rcases h.2 with ⟨e, _⟩ | ⟨g', cap', cur, e, _, _, hc, _⟩
  · simp at e
  · simp only [Value.slice.injEq] at e
    omega
/-- At the outer loop's head: s rows are made. -/
structure H.MP (w3 wr : World) (N m n : Nat) (E : Nat → Nat → Nat) (s : Nat) (av cv : Nat → Nat) : Prop where
  below : Below N w3 wr
  lt : N < wr.heap.size
  top : wr.rowIs N 27 m (fun j => if j < s then .slice (some ⟨av j, 0, none⟩) n (cv j) else .slice none 0 0)
  row : ∀ j, j < s → N < av j ∧ av j < wr.heap.size ∧ ∀ d, d < n → wr.cell? ⟨av j, d, none⟩ = some (.int .i64 (E j d))
  cap : ∀ j, j < s → n ≤ cv j
theorem H.mp_start {w3 : World} {m n : Nat} {E : Nat → Nat → Nat} {av cv : Nat → Nat} : H.MP w3 (w3.alloc (.cells (madeCells #[.slice none 0 0] m) 27)) w3.heap.size m n E 0 av cv :=
  ⟨(Below.refl _ _).alloc (Nat.le_refl _) _, by simp, (World.rowIs_made w3 _ m 27).congr (fun j _ => by simp), fun j hj => absurd hj (Nat.not_lt_zero _), fun j hj => absurd hj (Nat.not_lt_zero _)⟩
theorem H.mj_start {w3 wr : World} {N m n : Nat} {E : Nat → Nat → Nat} {s : Nat} {av cv : Nat → Nat} (h : H.MP w3 wr N m n E s av cv) : H.MI w3 wr N m n E s av cv wr.heap.size (.slice none 0 0) 0 :=
  ⟨h.below, Nat.le_refl _, h.top.congr (fun j _ => by
    by_cases e : j < s
    · simp [e]
    · simp [e]), fun j hj => (h.row j hj).2.2, World.ownsRow_nil _ _ _ _⟩
theorem H.mj_done {w3 wi : World} {N m n : Nat} {E : Nat → Nat → Nat} {s : Nat} {av cv : Nat → Nat} {B : Nat} {v : Value} (h : H.MI w3 wi N m n E s av cv B v n) (h0 : 0 < n) (hN : N < B) (hav : ∀ j, j < s → N < av j ∧ av j < B) (hcap : ∀ j, j < s → n ≤ cv j) :
    ∃ av' cv', H.MP w3 wi N m n E (s + 1) av' cv' := by
  have hl : (H.mrow E n s).length = n := H.mrow_len _ _ _
  obtain ⟨g, cap, hv, hb1, hb2, ho, hcp⟩ := h.own.form2 (by omega)
  refine ⟨fun j => if j = s then g else av j, fun j => if j = s then cap else cv j, h.below, Nat.lt_of_lt_of_le hN h.ge, h.top.congr (fun j _ => ?_), fun j hj => ?_, fun j hj => ?_⟩
  · by_cases e : j = s
    · subst e; simp [hv, hl]
    · by_cases hlt : j < s
      · simp [hlt, e, show j < s + 1 by omega]
      · simp [hlt, e, show ¬ j < s + 1 by omega]
  · by_cases e : j = s
    · subst e
      simp only [if_true]
      refine ⟨by omega, by omega, fun d hd => ?_⟩
      obtain ⟨b', off', he, hc⟩ := ho d (by omega)
      simp only [Option.some.injEq, Addr.mk.injEq, and_true] at he
      obtain ⟨rfl, rfl⟩ := he
      rw [Nat.zero_add] at hc
      rw [hc]
      simp [H.mrow]
    · simp only [if_neg e]
      have := hav j (by omega)
      have := h.ge
      exact ⟨by omega, by omega, h.row j (by omega)⟩
  · by_cases e : j = s
    · simp only [if_pos e]; omega
    · simp only [if_neg e]; exact hcap j (by omega)
theorem H.mp_rd {w3 wr : World} {N m n : Nat} {E : Nat → Nat → Nat} {av cv : Nat → Nat} (h : H.MP w3 wr N m n E m av cv) : RdM wr (some ⟨N, 0, none⟩) (H.mat E m n) := fun s hs => by
  have hs' : s < m := by rwa [H.mat_len] at hs
  have e := H.mat_row (E := E) (m := m) (n := n) hs
  refine ⟨N, 0, some ⟨av s, 0, none⟩, cv s, rfl, ?_, ?_⟩
  · rw [Nat.zero_add, h.top.cell hs', if_pos hs', e, H.mrow_len]
  · rw [e]
    intro d hd
    have hd' : d < n := by rwa [H.mrow_len] at hd
    refine ⟨av s, 0, rfl, ?_⟩
    rw [Nat.zero_add, (h.row s hs').2.2 d hd']
    simp [H.mrow]

theorem H.mp_caps {w3 wr : World} {N m n : Nat} {E : Nat → Nat → Nat} {av cv : Nat → Nat} (h : H.MP w3 wr N m n E m av cv) : H.Caps wr (some ⟨N, 0, none⟩) (H.mat E m n) := fun s hs => by
  have hs' : s < m := by rwa [H.mat_len] at hs
  have e := H.mat_row (E := E) (m := m) (n := n) hs
  refine ⟨N, 0, some ⟨av s, 0, none⟩, cv s, rfl, ?_, ?_⟩
  · rw [Nat.zero_add, h.top.cell hs', if_pos hs', e, H.mrow_len]
  · rw [e, H.mrow_len]; exact h.cap s hs'
theorem H.Caps.drewN' {w : World} {a : Option Addr} {T : List (List Int)} (h : H.Caps w a T) (q : Nat) : H.Caps (w.drewN q) a T := h

set_option maxHeartbeats 4000000 in
set_option maxRecDepth 100000 in
theorem made2_any (f : Nat → Nat) (mo : Nat) (w : World) (hf : ∀ k, f k < 256) (hmo : mo ≤ 30) :
    Calls Try.prog 40 #[bench f, .int .i64 mo] w fun e w' => ∃ a c, e = .returned (.tuple #[.slice a (H.bT f mo).length c, .int .i64 (H.bS f)]) ∧ RdM w' a (H.bT f mo) ∧ H.Caps w' a (H.bT f mo) ∧ Below w.heap.size w w' := by
  have hbx := box19 f w
  obtain ⟨i0, hi, hz0, hz1, hz2⟩ := info_parts (show (Try.prog.info? 3).map (fun i => (i.zero, i.size, i.bytes)) = some (some (.int .i64 0), 1, 8) by kernel_rfl)
  have HW0 := hid ((Below.refl w.heap.size w).alloc (Nat.le_refl _) (.cells #[.int .u8 (f 0), .int .u8 (f 1), .int .u8 (f 2), .int .u8 (f 3), .int .u8 (f 4), .int .u8 (f 5), .int .u8 (f 6), .int .u8 (f 7), .int .u8 (f 8), .int .u8 (f 9), .int .u8 (f 10), .int .u8 (f 11), .int .u8 (f 12), .int .u8 (f 13), .int .u8 (f 14), .int .u8 (f 15), .int .u8 (f 16), .int .u8 (f 17), .int .u8 (f 18)] 61))
  have hsz0 : (w.alloc (.cells #[.int .u8 (f 0), .int .u8 (f 1), .int .u8 (f 2), .int .u8 (f 3), .int .u8 (f 4), .int .u8 (f 5), .int .u8 (f 6), .int .u8 (f 7), .int .u8 (f 8), .int .u8 (f 9), .int .u8 (f 10), .int .u8 (f 11), .int .u8 (f 12), .int .u8 (f 13), .int .u8 (f 14), .int .u8 (f 15), .int .u8 (f 16), .int .u8 (f 17), .int .u8 (f 18)] 61)).heap.size = w.heap.size + 1 := by simp
  have h0 := hbx 0 (by omega)
  have h1 := hbx 1 (by omega)
  have HBX := hid hbx
  clear hbx
  generalize hw0 : w.alloc (.cells #[.int .u8 (f 0), .int .u8 (f 1), .int .u8 (f 2), .int .u8 (f 3), .int .u8 (f 4), .int .u8 (f 5), .int .u8 (f 6), .int .u8 (f 7), .int .u8 (f 8), .int .u8 (f 9), .int .u8 (f 10), .int .u8 (f 11), .int .u8 (f 12), .int .u8 (f 13), .int .u8 (f 14), .int .u8 (f 15), .int .u8 (f 16), .int .u8 (f 17), .int .u8 (f 18)] 61) = w0 at *
  have HE0 := hid hw0
  clear hw0
  have HSZ0 := hid hsz0
  clear hsz0
  have h0f := hf 0
  have h1f := hf 1
  have h2f := hf 2
  obtain ⟨m, hm⟩ : ∃ m : Nat, m = 1 + f 0 % 4 := ⟨_, rfl⟩
  obtain ⟨n, hn⟩ : ∃ n : Nat, n = 1 + f 1 % 4 := ⟨_, rfl⟩
  obtain ⟨sn, hsn⟩ : ∃ sn : Nat, sn = 1 + f 2 % 5 := ⟨_, rfl⟩
  have hm0 : (1 : Int) + (((f 0 : Nat) : Int) % 4) = (m : Int) := by omega
  have hn0 : (1 : Int) + (((f 1 : Nat) : Int) % 4) = (n : Int) := by omega
  have hs0 : (1 : Int) + (((f 2 : Nat) : Int) % 5) = (sn : Int) := by omega
  have hm4 : 1 ≤ m ∧ m ≤ 4 := by omega
  have hn4 : 1 ≤ n ∧ n ≤ 4 := by omega
  have HT : Hid (H.bT f mo = H.mat (H.bE f mo) m n ∧ H.bS f = sn) := hid ⟨by unfold H.bT; rw [hm, hn], by unfold H.bS; rw [hsn]⟩
  rw [HT.out.1, HT.out.2]
  clear hm hn hsn HT
  have HMm := hid hm0
  have HNn := hid hn0
  have HSs := hid hs0
  clear hm0 hn0 hs0
  have HBE := hid (fun s d => show H.bE f mo s d = f (3 + (4 * s + d)) % (mo + 1) from rfl)
  have HEB : Hid (∀ s d, H.bE f mo s d ≤ 30) := hid (fun s d => by unfold H.bE; have := Nat.mod_lt (f (3 + (4 * s + d))) (show 0 < mo + 1 by omega); omega)
  generalize H.bE f mo = E at *
  go_enter Try.func40, Try.ntmps40
  go_wp2
  rw [HE0.out]
  go_quiet (fail)
  rw [HMm.out, HNn.out]
  have HB0 := hid (below_drewN HW0.out nq)
  have HBQ : Hid (Box19 (w0.drewN nq) w.heap.size f) := hid (fun k hk => HBX.out k hk)
  clear h0 h1 HBX HW0 h0f h1f HMm HNn
  generalize w0.drewN nq = w3 at *
  have hmk1 := run_make_row' (P := Try.prog) 22 27 (.slice none 0 0) 24 Try.underlying22 (by kernel_rfl) rfl .i64 .i64 m (by omega) (by omega)
  go_wp2
  clear hmk1
  go_loopg [25] m (fun g i wr => ∃ s : Nat, ∃ av cv : Nat → Nat, s ≤ m ∧ g = m - s ∧ i = .int .i64 s ∧ H.MP w3 wr w3.heap.size m n E s av cv)
  case atStart => exact ⟨0, fun _ => 0, fun _ => 0, Nat.zero_le _, rfl, rfl, H.mp_start⟩
  case round =>
    obtain ⟨s, av, cv, hs, rfl, rfl, hO⟩ := hrel
    have HO := hid hO; clear hO
    by_cases hsl : s < m
    · have HI0 := hid (H.mj_start HO.out)
      have HH : Hid (w3.heap.size < wr.heap.size) := hid HO.out.lt
      have HCP : Hid (∀ j, j < s → n ≤ cv j) := hid HO.out.cap
      have HAV : Hid (∀ j, j < s → w3.heap.size < av j ∧ av j < wr.heap.size) := hid (fun j hj => ⟨(HO.out.row j hj).1, (HO.out.row j hj).2.1⟩)
      go_wp2
      obtain ⟨wo, rfl⟩ : ∃ wo : World, wo = wr := ⟨_, rfl⟩
      go_loopg [10] n (fun g2 x wi => ∃ (d : Nat) (v : Value), d ≤ n ∧ g2 = n - d ∧ x = .int .i64 d ∧ H.MI w3 wi w3.heap.size m n E s av cv wo.heap.size v d)
      case atStart => exact ⟨0, _, Nat.zero_le _, rfl, rfl, HI0.out⟩
      case round =>
        obtain ⟨d, v, hd, rfl, rfl, hI⟩ := hrel
        have HI := hid hI
        by_cases hdl : d < n
        · obtain ⟨a5, c5, rfl, _⟩ := hI.own.rd
          rw [H.mrow_len] at hI HI
          have hge := hI.ge
          have hHH := HH.out
          have t1 := hI.top.cell hsl
          have t2 := hI.top.frozen s
          rw [if_neg (Nat.lt_irrefl _), if_pos rfl] at t1
          have hp16 : 3 + (4 * s + d) < 19 := by omega
          have hbc : w3.cell? ⟨w.heap.size, 3 + (4 * s + d), none⟩ = some (.int .u8 (f (3 + (4 * s + d)))) := HBQ.out _ hp16
          have hfb := hf (3 + (4 * s + d))
          have heq := HBE.out s d
          have hmod : ((f (3 + (4 * s + d)) : Nat) : Int).tmod ((mo : Int) + 1) = ((E s d : Nat) : Int) := by
            rw [Int.tmod_eq_emod_of_nonneg (by omega), heq]
            push_cast
            rfl
          generalize hz9 : f (3 + (4 * s + d)) = z9 at *
          have heb := HEB.out s d
          clear hz9 heq
          have k1 := World.block_lt_of_cell? _ _ hbc
          have SF := hid (show ∀ W : World, (∀ q, q < wo.heap.size → W.heap[q]? = wr.heap[q]?) → (W.cell? ⟨w3.heap.size, s, none⟩ = some (.slice a5 d c5) ∧ W.cell? ⟨w.heap.size, 3 + (4 * s + d), none⟩ = some (.int .u8 z9)) ∧ W.frozen? ⟨w3.heap.size, s, none⟩ = false from fun W hW =>
            ⟨⟨(World.cell?_of_block (hW w3.heap.size hHH)).trans t1, (World.cell?_of_block (hW w.heap.size (by simp at k1; omega))).trans (cell_stays hI.below (Nat.le_refl _) hbc)⟩, (World.frozen?_of_block (hW w3.heap.size hHH)).trans t2⟩)
          have HF := hid (show ∀ Wa w4 : World, Wa.grownBy w4 (Value.ownBlock (.slice a5 d c5)) → Wa.heap = (wr.alloc (.cells #[.int .i64 (E s d)] 3)).heap → ∀ q, q < wo.heap.size → w4.heap[q]? = wr.heap[q]? from fun Wa w4 hg hWa q hq => by
            rw [hg.block q (by rw [hWa]; simp; omega) (fun e => by have := (World.ownsRow.lt hI.own q e.symm).1; omega), hWa]
            exact Below.heap_alloc _ _ _ (by omega))
          have FA := hid (show ∀ W : World, W.heap = (wr.alloc (.cells #[.int .i64 (E s d)] 3)).heap → W.ownsRow wo.heap.size 3 1 (.slice a5 d c5) d ((H.mrow E d s).map (Value.int .i64)) ∧ [Value.int .i64 (E s d)].length = 1 ∧ (∀ j u, [Value.int .i64 (E s d)][j]? = some u → W.cell? ((⟨wr.heap.size, 0, none⟩ : Addr).add j) = some u) ∧ (∀ u ∈ [Value.int .i64 (E s d)], u.oneCell' = true) ∧ d + 1 ≤ 1000 ∧ wo.heap.size ≤ W.heap.size from fun W hW => by
            refine ⟨ownsRow_heap (World.ownsRow.alloc (by have := hI.own; unfold RowI at this; rwa [H.mrow_len] at this) _) hW, rfl, ?_, fun u hu => by simp at hu; subst hu; rfl, by omega, by rw [hW]; simp; omega⟩
            intro j u hj
            match j, hj with
            | 0, hj => simp at hj; subst hj; rw [cell_heap hW]; simp [Addr.add])
          have q0 := (SF.out wr (fun q _ => rfl)).1
          have hx1 : (0 : Int) ≤ (s : Int) ∧ (s : Int) < (m : Int) := by omega
          have hwz : IntKind.i64.wrap ((z9 : Nat) : Int) = (z9 : Int) := IntWalk.i64_in _ (by omega)
          have hw4 : IntKind.i64.wrap (4 * (s : Int)) = 4 * (s : Int) := IntWalk.i64_in _ (by omega)
          have hw5 : IntKind.i64.wrap (4 * (s : Int) + (d : Int)) = 4 * (s : Int) + (d : Int) := IntWalk.i64_in _ (by omega)
          have hw6 : IntKind.i64.wrap ((mo : Int) + 1) = (mo : Int) + 1 := IntWalk.i64_in _ (by omega)
          have hx2 : (0 : Int) ≤ 4 * (s : Int) + (d : Int) ∧ 4 * (s : Int) + (d : Int) < 16 := by omega
          have hx3 : (4 * (s : Int) + (d : Int)).toNat = 4 * s + d := by omega
          have hne : ¬ (mo : Int) + 1 = 0 := by omega
          have hne2 : ¬ (mo : Int) + 1 = -1 := by omega
          clear hI t1 t2 k1 hbc
          go_wp2
          obtain ⟨q1, q2⟩ := q0
          have qa := (SF.out (wr.alloc (.cells #[.int .i64 (E s d)] 3)) (fun q hq => Below.heap_alloc wr _ q (by omega))).1.1
          go_region_law first | (refine step_append_at rfl (.tmp 38) (.tmp 50) 27 (by rfl) 3 i0 (.int .i64 0) Try.underlying27 hi hz0 hz1 (by rw [hz2]; decide) rfl wo.heap.size (.slice a5 d c5) d ((H.mrow E d s).map (Value.int .i64)) (by simp [Act.eval]) ⟨wr.heap.size, 0, none⟩ 1 1 [.int .i64 (E s d)] (by simp [Act.eval]) (FA.out _ rfl) ?_; intro v1 w4 ho1 hg1 ha1; obtain ⟨g6, c6, rfl, hg6⟩ := World.ownsRow.form ho1 (by omega); have qS := (SF.out w4 (HF.out _ w4 hg1 rfl)).1.1; have qF := (SF.out w4 (HF.out _ w4 hg1 rfl)).2)
          all_goals clear qS qF q1 q2 qa SF HF FA hne hne2 hx1 hx2 hx3 ha1 hg6 hw4 hw5 hw6 hmod hwz
          all_goals (try go_wp2)
          all_goals
            go_roundg (n - (d + 1))
            case measure => omega
            case rel => exact ⟨d + 1, _, by omega, rfl, by go_num, H.mi_step HI.out HH.out HAV.out (by exact ⟨rfl, rfl, rfl, rfl⟩) ho1 hg1 (by exact ⟨rfl, rfl, rfl, rfl⟩)⟩
        · have hdn : d = n := by omega
          subst hdn
          obtain ⟨av', cv', hO2⟩ := H.mj_done HI.out (by omega) HH.out HAV.out HCP.out
          have HO2 := hid hO2
          clear hI hO2
          go_wp2
          go_roundg (m - (s + 1))
          case measure => omega
          case rel => exact ⟨s + 1, av', cv', by omega, rfl, by go_num, HO2.out⟩
    · have hsn : s = m := by omega
      subst hsn
      have HR := hid (H.mp_rd HO.out)
      have HRC := hid (H.mp_caps HO.out)
      have HBB := hid (HB0.out.trans (HO.out.below.mono HB0.out.size))
      have HML := hid (H.mat_len E s n)
      have h2 := cell_stays HO.out.below (Nat.le_refl _) (HBQ.out 2 (by omega))
      clear HO
      go_wp2
      go_quiet (fail)
      rw [HSs.out]
      go_wp2
      go_ret2
      exact ⟨_, s, by rw [HML.out]; rfl, HR.out.drewN' _, HRC.out.drewN' _, below_drewN HBB.out _⟩
end Go.Proofs.Ythlcnklbeolhpaa
