/- The walk of Line. -/
import Derived.Test.YtlpdlnefgjmgmaaOwn
import Derived.Test.YtlpdlnefgjmgmaaSmall
namespace Go.Proofs.Ytlpdlnefgjmgmaa
open Go.RowKit

def P.lineRow (n k s : Nat) : List Int := (List.range n).map fun d : Nat => (((k * s + d) % n : Nat) : Int)
def P.lineT (n k : Nat) : List (List Int) := (List.range n).map fun s : Nat => P.lineRow n k s
def P.line (base step : Int) : List (List Int) × Int :=
  if base < 2 ∨ 10 < base ∨ step < 1 ∨ base - 1 < step then ([], 4) else if 1 < Nat.gcd base.toNat step.toNat then ([], 12) else (P.lineT base.toNat step.toNat, 0)

/-- At the outer loop's head: s rows are made. -/
structure LOut (w wr : World) (B N n k s : Nat) : Prop where
  below : Below B w wr
  size : wr.heap.size = N + 1 + s
  top : wr.rowIs N 35 n (fun j => if j < s then .slice (some ⟨N + 1 + j, 0, none⟩) n n else .slice none 0 0)
  done : ∀ j, j < s → wr.rowIs (N + 1 + j) 3 n (fun d => .int .i64 (((k * j + d) % n : Nat) : Int))

/-- At the inner loop's head: row s is made, d of its numbers are filled in. -/
structure LIn (w wi : World) (B N n k s d : Nat) : Prop where
  below : Below B w wi
  size : wi.heap.size = N + 1 + s + 1
  top : wi.rowIs N 35 n (fun j => if j < s + 1 then .slice (some ⟨N + 1 + j, 0, none⟩) n n else .slice none 0 0)
  done : ∀ j, j < s → wi.rowIs (N + 1 + j) 3 n (fun d => .int .i64 (((k * j + d) % n : Nat) : Int))
  cur : wi.rowIs (N + 1 + s) 3 n (fun i => if i < d then .int .i64 (((k * s + i) % n : Nat) : Int) else .int .i64 0)

theorem lout_start {w w1 : World} {B n k : Nat} (hb : Below B w w1) (hB : B ≤ w1.heap.size) : LOut w (w1.alloc (.cells (madeCells #[.slice none 0 0] n) 35)) B w1.heap.size n k 0 :=
  ⟨hb.alloc hB _, by simp, (World.rowIs_made w1 _ n 35).congr (fun j _ => by simp), fun j hj => absurd hj (Nat.not_lt_zero _)⟩

theorem lin_start {w wr : World} {B N n k s : Nat} (h : LOut w wr B N n k s) (hB : B ≤ N) :
    LIn w ((wr.alloc (.cells (madeCells #[.int .i64 0] n) 3)).setCell ⟨N, s, none⟩ (.slice (some ⟨N + 1 + s, 0, none⟩) n n)) B N n k s 0 := by
  have hnew := World.rowIs_made wr (.int .i64 0) n 3
  rw [h.size] at hnew
  refine ⟨(h.below.alloc (by rw [h.size]; omega) _).setCell hB _, by simp [h.size], ((h.top.alloc _).set s _).congr (fun j _ => ?_), fun j hj => ((h.done j hj).alloc _).setOther (by show N + 1 + j ≠ N; omega) _,
    (hnew.setOther (by show N + 1 + s ≠ N; omega) _).congr (fun i _ => by simp)⟩
  by_cases e : j = s
  · subst e; simp
  · rw [if_neg e]
    by_cases hlt : j < s
    · rw [if_pos hlt, if_pos (by omega)]
    · rw [if_neg hlt, if_neg (by omega)]

theorem lin_step {w wi wj : World} {B N n k s d : Nat} (h : LIn w wi B N n k s d) (hB : B ≤ N) (hs : Same wj (wi.setCell ⟨N + 1 + s, d, none⟩ (.int .i64 (((k * s + d) % n : Nat) : Int)))) :
    LIn w wj B N n k s (d + 1) := by
  refine ⟨below_same (h.below.setCell (by show B ≤ N + 1 + s; omega) _) hs, by rw [hs.1]; simp [h.size], (h.top.setOther (a := ⟨N + 1 + s, d, none⟩) (by show N ≠ N + 1 + s; omega) (.int .i64 (((k * s + d) % n : Nat) : Int))).of_block (by rw [hs.1]),
    fun j hj => ((h.done j hj).setOther (a := ⟨N + 1 + s, d, none⟩) (by show N + 1 + j ≠ N + 1 + s; omega) (.int .i64 (((k * s + d) % n : Nat) : Int))).of_block (by rw [hs.1]), (((h.cur.set d _).congr (fun i _ => ?_)).of_block (by rw [hs.1]))⟩
  by_cases e : i = d
  · subst e; simp
  · rw [if_neg e]
    by_cases hlt : i < d
    · rw [if_pos hlt, if_pos (by omega)]
    · rw [if_neg hlt, if_neg (by omega)]

theorem lin_done {w wi : World} {B N n k s : Nat} (h : LIn w wi B N n k s n) : LOut w wi B N n k (s + 1) :=
  ⟨h.below, by rw [h.size]; omega, h.top, fun j hj => by
    by_cases e : j = s
    · subst e; exact h.cur.congr (fun i hi => by rw [if_pos hi])
    · exact h.done j (by omega)⟩

theorem lout_rd {w wr : World} {B N n k : Nat} (h : LOut w wr B N n k n) : RdM wr (some ⟨N, 0, none⟩) (P.lineT n k) := fun s hs => by
  have hs' : s < n := by simpa [P.lineT] using hs
  have e : (P.lineT n k)[s] = P.lineRow n k s := by simp [P.lineT]
  have el : (P.lineRow n k s).length = n := by simp [P.lineRow]
  refine ⟨N, 0, some ⟨N + 1 + s, 0, none⟩, n, rfl, ?_, ?_⟩
  · rw [Nat.zero_add, h.top.cell hs', if_pos hs', e, el]
  · rw [e]
    intro d hd
    have hd' : d < n := by omega
    refine ⟨N + 1 + s, 0, rfl, ?_⟩
    rw [Nat.zero_add, (h.done s hs').cell hd']
    simp [P.lineRow]

set_option maxHeartbeats 2000000 in
set_option maxRecDepth 100000 in
theorem line_good (n k : Nat) (w : World) (hn2 : 2 ≤ n) (hn : n ≤ 10) (hk1 : 1 ≤ k) (hk : k ≤ n - 1) (hg : Nat.gcd n k ≤ 1) :
    Calls Try.prog 29 #[.int .i64 n, .int .i64 k] w
      fun e w' => ∃ r cr, e = .returned (.tuple #[.slice r n cr, .int .i64 0]) ∧ RdM w' r (P.lineT n k) ∧ Below w.heap.size w w' := by
  have HC := hid (shared_any n k w (by omega) (by omega))
  have hmk1 := run_make_row' (P := Try.prog) 25 35 (.slice none 0 0) 24 Try.underlying25 (by kernel_rfl) rfl .i64 .i64 n (by omega) (by omega)
  have hmk2 := run_make_row' (P := Try.prog) 35 3 (.int .i64 0) 8 Try.underlying35 (by kernel_rfl) rfl .i64 .i64 n (by omega) (by omega)
  have h1 : ¬ (n : Int) - 1 < (k : Int) := by omega
  go_enter Try.func29, Try.ntmps29
  go_wp2_with fail
  refine HC.out.mono ?_
  rintro e w1 ⟨rfl, hb⟩
  have HB := hid hb; clear hb
  have hgi : ¬ (1 : Int) < ((Nat.gcd n k : Nat) : Int) := by omega
  generalize Nat.gcd n k = gd at *
  go_wp2
  go_loopg [33] n (fun g i wr => ∃ s : Nat, s ≤ n ∧ g = n - s ∧ i = .int .i64 s ∧ LOut w wr w.heap.size w1.heap.size n k s)
  case atStart => exact ⟨0, Nat.zero_le _, rfl, rfl, lout_start HB.out HB.out.size⟩
  case round =>
    obtain ⟨s, hs, rfl, rfl, hO⟩ := hrel
    have hsz := hO.size
    have HO := hid hO
    by_cases hsl : s < n
    · have hst1 : ∀ o, (wr.alloc o).cell? ⟨w1.heap.size, s, none⟩ = some (.slice none 0 0) := fun o => by
        rw [(hO.top.alloc o).cell hsl, if_neg (Nat.lt_irrefl _)]
      have hst2 : ∀ o, (wr.alloc o).frozen? ⟨w1.heap.size, s, none⟩ = false := fun o => (hO.top.alloc o).frozen s
      have HI0 := hid (lin_start hO HB.out.size)
      have hI0 := lin_start hO HB.out.size
      rw [← hsz] at hI0
      have HI0 := hid hI0
      have HSZ := hid hsz
      clear hO hsz hI0
      go_wp2
      obtain ⟨wo, rfl⟩ : ∃ wo : World, wo = wr := ⟨_, rfl⟩
      have hp0 : (0 : Int) ≤ (k : Int) * (s : Int) := Int.mul_nonneg (by omega) (by omega)
      have hp1 : (k : Int) * (s : Int) ≤ 100 := by
        have : k * s ≤ 10 * 10 := Nat.mul_le_mul (by omega) (by omega)
        rw [← Int.natCast_mul]; omega
      have hnz : ¬ (n : Int) = 0 := by omega
      clear hst1 hst2
      go_loopg [46] n (fun g2 x wi => ∃ d : Nat, d ≤ n ∧ g2 = n - d ∧ x = .int .i64 d ∧ LIn w wi w.heap.size w1.heap.size n k s d)
      case atStart => exact ⟨0, Nat.zero_le _, rfl, rfl, HI0.out⟩
      case round =>
        obtain ⟨d, hd, rfl, rfl, hI⟩ := hrel
        have HI := hid hI
        by_cases hdl : d < n
        · have g1 : wr.cell? ⟨w1.heap.size, s, none⟩ = some (.slice (some ⟨w1.heap.size + 1 + s, 0, none⟩) n n) := by
            rw [hI.top.cell hsl, if_pos (by omega)]
          have g4 : wr.cell? ⟨w1.heap.size + 1 + s, d, none⟩ = some (.int .i64 0) := by
            rw [hI.cur.cell hdl, if_neg (Nat.lt_irrefl _)]
          have g5 := hI.cur.frozen d
          have hix1 : (0 : Int) ≤ (s : Int) ∧ (s : Int) < (n : Int) := by omega
          have hix2 : (0 : Int) ≤ (d : Int) ∧ (d : Int) < (n : Int) := by omega
          have HV : Hid (((k : Int) * (s : Int) + (d : Int)) % (n : Int) = (((k * s + d) % n : Nat) : Int)) := hid (by simp)
          have hmm : (0 : Int) ≤ ((k : Int) * (s : Int) + (d : Int)) % (n : Int) ∧ ((k : Int) * (s : Int) + (d : Int)) % (n : Int) ≤ 100 := by
            have h1 := Int.emod_nonneg ((k : Int) * (s : Int) + (d : Int)) hnz
            have h2 := Int.emod_lt_of_pos ((k : Int) * (s : Int) + (d : Int)) (show (0 : Int) < (n : Int) by omega)
            omega
          clear hI
          go_wp2
          go_region
          all_goals (try go_wp2)
          all_goals
            go_roundg (n - (d + 1))
            case measure => omega
            case rel => exact ⟨d + 1, by omega, rfl, by go_num, lin_step HI.out HB.out.size (by rw [← HV.out]; exact ⟨rfl, rfl, rfl, rfl⟩)⟩
        · have hdn : d = n := by omega
          subst hdn
          have HO2 := hid (lin_done HI.out)
          clear hI
          go_wp2
          go_roundg (d - (s + 1))
          case measure => omega
          case rel => exact ⟨s + 1, by omega, rfl, by go_num, HO2.out⟩
    · have hsn : s = n := by omega
      subst hsn
      have HR := hid (lout_rd HO.out)
      have HBB := hid HO.out.below
      clear hO hsz HO
      go_wp2
      go_ret2
      exact ⟨_, _, rfl, HR.out, HBB.out⟩

set_option maxHeartbeats 1000000 in
theorem line_any (base step : Int) (w : World) :
    Calls Try.prog 29 #[.int .i64 base, .int .i64 step] w
      fun e w' => ∃ r cr T, e = .returned (.tuple #[.slice r T.length cr, .int .i64 (P.line base step).2]) ∧ T = (P.line base step).1 ∧ RdM w' r T ∧ Below w.heap.size w w' := by
  unfold P.line
  by_cases h : base < 2 ∨ 10 < base ∨ step < 1 ∨ base - 1 < step
  · rw [if_pos h]
    have all : base < 2 ∨ (¬ base < 2 ∧ 10 < base) ∨ (¬ base < 2 ∧ ¬ 10 < base ∧ step < 1) ∨ (¬ base < 2 ∧ ¬ 10 < base ∧ ¬ step < 1 ∧ base - 1 < step) := by omega
    clear h
    rcases all with h1 | ⟨h1, h2⟩ | ⟨h1, h2, h3⟩ | ⟨h1, h2, h3, h4⟩
    all_goals
      go_enter Try.func29, Try.ntmps29
      go_wp2
      go_ret2
      exact ⟨none, 0, [], rfl, rfl, fun k hk => absurd hk (Nat.not_lt_zero _), Below.refl _ _⟩
  · rw [if_neg h]
    obtain ⟨n, rfl⟩ := Int.eq_ofNat_of_zero_le (show 0 ≤ base by omega)
    obtain ⟨k, rfl⟩ := Int.eq_ofNat_of_zero_le (show 0 ≤ step by omega)
    rw [Int.toNat_natCast, Int.toNat_natCast]
    by_cases hg : 1 < Nat.gcd n k
    · rw [if_pos hg]
      have HC := hid (shared_any n k w (by omega) (by omega))
      have h1 : ¬ (n : Int) < 2 := by omega
      have h2 : ¬ (10 : Int) < n := by omega
      have h3 : ¬ (k : Int) < 1 := by omega
      have h4 : ¬ (n : Int) - 1 < (k : Int) := by omega
      have hgi : (1 : Int) < ((Nat.gcd n k : Nat) : Int) := by omega
      generalize Nat.gcd n k = gd at *
      clear h hg
      go_enter Try.func29, Try.ntmps29
      go_wp2_with (go_at_call 48; refine HC.out.mono ?_; rintro e w1 ⟨rfl, hb⟩)
      go_ret2
      exact ⟨none, 0, [], rfl, rfl, fun k hk => absurd hk (Nat.not_lt_zero _), hb⟩
    · rw [if_neg hg]
      refine (line_good n k w (by omega) (by omega) (by omega) (by omega) (by omega)).mono ?_
      rintro e w' ⟨r, cr, rfl, hr, hb⟩
      exact ⟨r, cr, P.lineT n k, by simp [P.lineT], rfl, hr, hb⟩

end Go.Proofs.Ytlpdlnefgjmgmaa
