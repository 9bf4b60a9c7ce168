/- The walk of the law HoursMore. -/
import Derived.Test.YthlcnklbeolhpaaHArith
import Derived.Test.YthlcnklbeolhpaaHWorks
namespace Go.Proofs.Ythlcnklbeolhpaa
open Go.RowKit Ev

theorem Box19.agg {w : World} {b : Nat} {f : Nat → Nat} (h : Box19 w b f) : w.rangeAt b 0 [.int .u8 (f 0), .int .u8 (f 1), .int .u8 (f 2), .int .u8 (f 3), .int .u8 (f 4), .int .u8 (f 5), .int .u8 (f 6), .int .u8 (f 7), .int .u8 (f 8), .int .u8 (f 9), .int .u8 (f 10), .int .u8 (f 11), .int .u8 (f 12), .int .u8 (f 13), .int .u8 (f 14), .int .u8 (f 15), .int .u8 (f 16), .int .u8 (f 17), .int .u8 (f 18)] := by
  intro j v hv
  have hj : j < 19 := by
    have := (List.getElem?_eq_some_iff.1 hv).1
    simpa using this
  rw [Nat.zero_add, h j hj]
  have h : j = 0 ∨ j = 1 ∨ j = 2 ∨ j = 3 ∨ j = 4 ∨ j = 5 ∨ j = 6 ∨ j = 7 ∨ j = 8 ∨ j = 9 ∨ j = 10 ∨ j = 11 ∨ j = 12 ∨ j = 13 ∨ j = 14 ∨ j = 15 ∨ j = 16 ∨ j = 17 ∨ j = 18 := by omega
  rcases h with rfl | rfl | rfl | rfl | rfl | rfl | rfl | rfl | rfl | rfl | rfl | rfl | rfl | rfl | rfl | rfl | rfl | rfl | rfl <;> (simp at hv; rw [← hv])

theorem two_alloc (w : World) (x y : Value) (t : TypeId) : Below w.heap.size w ((w.alloc (.cells #[x] t)).alloc (.cells #[y] t)).drew ∧ ((w.alloc (.cells #[x] t)).alloc (.cells #[y] t)).drew.cell? ⟨w.heap.size, 0, none⟩ = some x ∧ ((w.alloc (.cells #[x] t)).alloc (.cells #[y] t)).drew.cell? ⟨w.heap.size + 1, 0, none⟩ = some y := by
  have h1 : (w.alloc (.cells #[x] t)).cell? ⟨w.heap.size, 0, none⟩ = some x := by rw [World.cell?_alloc_at _ _ _ _ rfl]; rfl
  have h2 : ((w.alloc (.cells #[x] t)).alloc (.cells #[y] t)).cell? ⟨w.heap.size, 0, none⟩ = some x := cell_stays ((Below.refl _ _).alloc (Nat.le_refl _) _) (Nat.le_refl _) h1
  have h3 : ((w.alloc (.cells #[x] t)).alloc (.cells #[y] t)).cell? ⟨w.heap.size + 1, 0, none⟩ = some y := by rw [World.cell?_alloc_at _ _ _ _ (by simp)]; rfl
  exact ⟨below_drew (((Below.refl _ _).alloc (Nat.le_refl _) _).alloc (by simp) _), h2, h3⟩

set_option maxHeartbeats 8000000 in
set_option maxRecDepth 100000 in
theorem hoursMore_any (f : Nat → Nat) (x y : Nat) (w : World) (hf : ∀ k, f k < 256) (hx : x < 256) (hy : y < 256) :
    Calls Try.prog 10 #[bench f, .int .u8 x, .int .u8 y] w fun e w' => e = .returned (.bool true) ∧ Below w.heap.size w w' := by
  have HB0 := hid ((Below.refl w.heap.size w).alloc (Nat.le_refl _) (.cells #[.int .u8 (f 0), .int .u8 (f 1), .int .u8 (f 2), .int .u8 (f 3), .int .u8 (f 4), .int .u8 (f 5), .int .u8 (f 6), .int .u8 (f 7), .int .u8 (f 8), .int .u8 (f 9), .int .u8 (f 10), .int .u8 (f 11), .int .u8 (f 12), .int .u8 (f 13), .int .u8 (f 14), .int .u8 (f 15), .int .u8 (f 16), .int .u8 (f 17), .int .u8 (f 18)] 61))
  have HMD := hid (fun W => made_any f 12 W hf (by decide))
  have HRG := hid (box19 f w).agg
  generalize hw0 : w.alloc (.cells #[.int .u8 (f 0), .int .u8 (f 1), .int .u8 (f 2), .int .u8 (f 3), .int .u8 (f 4), .int .u8 (f 5), .int .u8 (f 6), .int .u8 (f 7), .int .u8 (f 8), .int .u8 (f 9), .int .u8 (f 10), .int .u8 (f 11), .int .u8 (f 12), .int .u8 (f 13), .int .u8 (f 14), .int .u8 (f 15), .int .u8 (f 16), .int .u8 (f 17), .int .u8 (f 18)] 61) = w0 at *
  have HW0 := hid hw0
  clear hw0
  obtain ⟨m, hm⟩ : ∃ m : Nat, m = 1 + f 0 % 4 := ⟨_, rfl⟩
  obtain ⟨n, hn⟩ : ∃ n : Nat, n = 1 + f 1 % 4 := ⟨_, rfl⟩
  obtain ⟨sn, hsn⟩ : ∃ sn : Nat, sn = 1 + f 2 % 5 := ⟨_, rfl⟩
  have HT : Hid (H.bT f 12 = H.mat (H.bE f 12) m n ∧ H.bS f = sn) := hid ⟨by unfold H.bT; rw [hm, hn], by unfold H.bS; rw [hsn]⟩
  rw [HT.out.1, HT.out.2] at HMD
  have hm4 : 1 ≤ m ∧ m ≤ 4 := by omega
  have hn4 : 1 ≤ n ∧ n ≤ 4 := by omega
  have hs5 : 1 ≤ sn ∧ sn ≤ 5 := by omega
  have HEB : Hid (∀ s d, H.bE f 12 s d ≤ 12) := hid (fun s d => by unfold H.bE; have := Nat.mod_lt (f (3 + (4 * s + d))) (show 0 < 12 + 1 by omega); omega)
  have HTL := hid (H.mat_len (H.bE f 12) m n)
  rw [HTL.out] at HMD
  clear hm hn hsn HT HTL
  generalize H.bE f 12 = E at *
  obtain ⟨i, hi⟩ : ∃ i : Nat, i = x % m := ⟨_, rfl⟩
  obtain ⟨k, hk⟩ : ∃ k : Nat, k = y % n := ⟨_, rfl⟩
  have him : i < m := by rw [hi]; exact Nat.mod_lt _ (by omega)
  have hkn : k < n := by rw [hk]; exact Nat.mod_lt _ (by omega)
  have hri : ((x : Nat) : Int).tmod (m : Int) = (i : Int) := by rw [Int.tmod_eq_emod_of_nonneg (by omega), hi]; push_cast; rfl
  have hrk : ((y : Nat) : Int).tmod (n : Int) = (k : Int) := by rw [Int.tmod_eq_emod_of_nonneg (by omega), hk]; push_cast; rfl
  have hwx : IntKind.i64.wrap ((x : Nat) : Int) = (x : Int) := IntWalk.i64_in _ (by omega)
  have hwy : IntKind.i64.wrap ((y : Nat) : Int) = (y : Int) := IntWalk.i64_in _ (by omega)
  have hm0 : ¬ (m : Int) = 0 := by omega
  have hn0 : ¬ (n : Int) = 0 := by omega
  have hm00 : (0 : Int) < (m : Int) := by omega
  have hm01 : ¬ m = 0 := by omega
  have hn01 : ¬ n = 0 := by omega
  clear hi hk
  have hok := H.mat_ok (E := E) (m := m) (n := n) hm4.1 (by omega) hn4.1 (by omega) (fun s d => by have := HEB.out s d; omega)
  have HMR := hid (H.more (E := E) (m := m) (n := n) (i := i) (k := k) (s := (sn : Int)) hm4.1 hm4.2 hn4.2 him hkn (by omega) (by omega) HEB.out)
  have hlens := hok.lens
  have hck := hok.chks (s := (sn : Int)) (by omega) (by omega)
  have HSB := hid (H.sht_bd hok (s := (sn : Int)) (by omega))
  have HFW := hid (fun (h : 1 < (sn : Int)) => H.fewer (T := H.mat E m n) h)
  have HS0 := hid (fun (a : Option Addr) (c : Nat) W (hx : RdM W a (H.mat E m n)) => show Calls Try.prog 19 #[.slice a m c, .int .i64 sn] W fun e w' => e = .returned (.tuple #[.int .i64 (H.sht (H.mat E m n) sn), .int .i64 0]) ∧ Below W.heap.size W w' from by
    have := Shortest_any a c (H.mat E m n) sn W hlens.1 hlens.2 hx
    unfold H.shE at this
    rwa [if_pos hck, hck, H.mat_len] at this)
  have HF0 := hid (fun (h1 : 1 < sn) (a : Option Addr) (c : Nat) W (hx : RdM W a (H.mat E m n)) => show Calls Try.prog 19 #[.slice a m c, .int .i64 ((sn : Int) - 1)] W fun e w' => e = .returned (.tuple #[.int .i64 (H.sht (H.mat E m n) ((sn : Int) - 1)), .int .i64 0]) ∧ Below W.heap.size W w' from by
    have hck2 := hok.chks (s := (sn : Int) - 1) (by omega) (by omega)
    have := Shortest_any a c (H.mat E m n) ((sn : Int) - 1) W hlens.1 hlens.2 hx
    unfold H.shE at this
    rwa [if_pos hck2, hck2, H.mat_len] at this)
  have HR0 := hid (fun (a : Option Addr) (c : Nat) W (hx : RdM W a (H.mat E m n)) => show Calls Try.prog 36 #[.slice a m c, .int .i64 sn, .int .i64 i, .int .i64 k] W fun e w' => e = .returned (.tuple #[.int .i64 (H.room (H.mat E m n) sn i k), .int .i64 0]) ∧ Below W.heap.size W w' from by
    have := room_any a c (H.mat E m n) sn i k W hlens.1 hlens.2 hx
    have hip : H.isP (H.mat E m n) i k = true := by
      unfold H.isP H.inn
      rw [H.mat_len, H.mat_wid hm4.1]
      simp
      omega
    unfold H.rmE H.rmX at this
    rw [if_pos ⟨hck, hip⟩, if_pos hck, if_pos hip, H.mat_len] at this
    simpa using this)
  have HN0 := hid (fun (a : Option Addr) (c : Nat) W (hx : RdM W a (H.mat E m n)) => show Calls Try.prog 41 #[.slice a m c, .int .i64 sn] W fun e w' => e = .returned (.int .i64 (H.sht (H.mat E m n) sn)) ∧ Below W.heap.size W w' from by
    have := bound2_any a c (H.mat E m n) sn W hok.dim (by omega) (by omega) hx
    rwa [H.mat_len] at this)
  have HP0 := hid (fun (j : Nat) (hj : j ≤ 101) (a : Option Addr) (c : Nat) W (hx : RdM W a (H.mat (H.plus E i k j) m n)) => show Calls Try.prog 41 #[.slice a m c, .int .i64 sn] W fun e w' => e = .returned (.int .i64 (H.sht (H.mat (H.plus E i k j) m n) sn)) ∧ Below W.heap.size W w' from by
    have hd : H.Dim (H.mat (H.plus E i k j) m n) := H.mat_dim hm4.1 (by omega) hn4.1 (by omega) (fun s d => by unfold H.plus; have := HEB.out s d; split <;> omega)
    have := bound2_any a c _ sn W hd (by omega) (by omega) hx
    rwa [H.mat_len] at this)
  have HQ0 := hid (fun (a : Option Addr) (c : Nat) W (hx : RdM W a (H.mat (H.plus E i k 1) m n)) => show Calls Try.prog 19 #[.slice a m c, .int .i64 sn] W fun e w' => e = .returned (.tuple #[.int .i64 (H.sht (H.mat (H.plus E i k 1) m n) sn), .int .i64 0]) ∧ Below W.heap.size W w' from by
    have hok2 : H.Ok (H.mat (H.plus E i k 1) m n) := H.mat_ok hm4.1 (by omega) hn4.1 (by omega) (fun s d => by unfold H.plus; have := HEB.out s d; split <;> omega)
    have hck2 := hok2.chks (s := (sn : Int)) (by omega) (by omega)
    have := Shortest_any a c _ sn W hok2.lens.1 hok2.lens.2 hx
    unfold H.shE at this
    rwa [if_pos hck2, hck2, H.mat_len] at this)
  clear hok hlens hck
  go_enter Try.func10, Try.ntmps10
  go_wp2_with (refine wpList_load_mid rfl 61 _ rfl w.heap.size 0 rfl [.int .u8 (f 0), .int .u8 (f 1), .int .u8 (f 2), .int .u8 (f 3), .int .u8 (f 4), .int .u8 (f 5), .int .u8 (f 6), .int .u8 (f 7), .int .u8 (f 8), .int .u8 (f 9), .int .u8 (f 10), .int .u8 (f 11), .int .u8 (f 12), .int .u8 (f 13), .int .u8 (f 14), .int .u8 (f 15), .int .u8 (f 16), .int .u8 (f 17), .int .u8 (f 18)] _ (by rw [HW0.out]; exact HRG.out) Try.underlying61 rfl (by kernel_rfl) ?_)
  rw [HW0.out]
  refine (HMD.out _).mono ?_
  rintro e w1 ⟨a, c, rfl, hx1, hb⟩
  have hlm := H.mat_len E m n
  obtain ⟨b, off, r0, c0, rfl, q0, _⟩ := hx1 0 (by omega)
  rw [H.mat_row, H.mrow_len] at q0
  simp only [Nat.add_zero] at q0
  have hb2 : Below w1.heap.size w1 (w1.alloc (.cells #[.slice (some ⟨b, off, none⟩) m c] 22)) := (Below.refl _ _).alloc (Nat.le_refl _) _
  have k0 : (w1.alloc (.cells #[.slice (some ⟨b, off, none⟩) m c] 22)).cell? ⟨w1.heap.size, 0, none⟩ = some (.slice (some ⟨b, off, none⟩) m c) := by rw [World.cell?_alloc_at _ _ _ _ rfl]; rfl
  have q1 := cell_stays hb2 (Nat.le_refl _) q0
  have HX2 := hid (hx1.stays hb2)
  have HB2 := hid ((HB0.out.trans (hb.mono HB0.out.size)).trans (hb2.mono (HB0.out.trans (hb.mono HB0.out.size)).size))
  have lb : b < w1.heap.size := World.block_lt_of_cell? _ _ q0
  clear hx1 hb hb2 q0
  go_wp2
  generalize w1.alloc (.cells #[.slice (some ⟨b, off, none⟩) m c] 22) = w2 at *
  generalize w1.heap.size = bw at *
  have j1 : ∀ o1, (w2.alloc o1).cell? ⟨bw, 0, none⟩ = some (.slice (some ⟨b, off, none⟩) m c) := fun o => cell_stays ((Below.refl _ _).alloc (Nat.le_refl _) o) (Nat.le_refl _) k0
  have hm02 : 0 < m := by omega
  have HK0 := hid k0
  go_region_held3 (fun W => W.cell? ⟨bw, 0, none⟩ = some (.slice (some ⟨b, off, none⟩) m c) ∧ W.cell? ⟨b, off, none⟩ = some (.slice r0 n c0)) (go_keep) (fail)
  all_goals clear j1 q1 k0 hri hrk hwx hwy hm0 hn0 hm00 hm01 hn01 hm02 lb
  have HF5 : Hid (Below w.heap.size w ((w2.alloc (.cells #[.int .i64 (i : Int)] 3)).alloc (.cells #[.int .i64 (k : Int)] 3)).drew ∧ RdM ((w2.alloc (.cells #[.int .i64 (i : Int)] 3)).alloc (.cells #[.int .i64 (k : Int)] 3)).drew (some ⟨b, off, none⟩) (H.mat E m n) ∧ ((w2.alloc (.cells #[.int .i64 (i : Int)] 3)).alloc (.cells #[.int .i64 (k : Int)] 3)).drew.cell? ⟨bw, 0, none⟩ = some (.slice (some ⟨b, off, none⟩) m c) ∧ ((w2.alloc (.cells #[.int .i64 (i : Int)] 3)).alloc (.cells #[.int .i64 (k : Int)] 3)).drew.cell? ⟨w2.heap.size, 0, none⟩ = some (.int .i64 i) ∧ ((w2.alloc (.cells #[.int .i64 (i : Int)] 3)).alloc (.cells #[.int .i64 (k : Int)] 3)).drew.cell? ⟨w2.heap.size + 1, 0, none⟩ = some (.int .i64 k)) := hid (by
    obtain ⟨p1, p2, p3⟩ := two_alloc w2 (.int .i64 (i : Int)) (.int .i64 (k : Int)) 3
    exact ⟨HB2.out.trans (p1.mono HB2.out.size), HX2.out.stays p1, cell_stays p1 (Nat.le_refl _) HK0.out, p2, p3⟩)
  generalize ((w2.alloc (.cells #[.int .i64 (i : Int)] 3)).alloc (.cells #[.int .i64 (k : Int)] 3)).drew = w5 at *
  generalize w2.heap.size + 1 = bk at *
  generalize w2.heap.size = bi at *
  rotate_left
  have HF5 : Hid (Below w.heap.size w ((w2.alloc (.cells #[.int .i64 (k : Int)] 3)).alloc (.cells #[.int .i64 (i : Int)] 3)).drew ∧ RdM ((w2.alloc (.cells #[.int .i64 (k : Int)] 3)).alloc (.cells #[.int .i64 (i : Int)] 3)).drew (some ⟨b, off, none⟩) (H.mat E m n) ∧ ((w2.alloc (.cells #[.int .i64 (k : Int)] 3)).alloc (.cells #[.int .i64 (i : Int)] 3)).drew.cell? ⟨bw, 0, none⟩ = some (.slice (some ⟨b, off, none⟩) m c) ∧ ((w2.alloc (.cells #[.int .i64 (k : Int)] 3)).alloc (.cells #[.int .i64 (i : Int)] 3)).drew.cell? ⟨w2.heap.size + 1, 0, none⟩ = some (.int .i64 i) ∧ ((w2.alloc (.cells #[.int .i64 (k : Int)] 3)).alloc (.cells #[.int .i64 (i : Int)] 3)).drew.cell? ⟨w2.heap.size, 0, none⟩ = some (.int .i64 k)) := hid (by
    obtain ⟨p1, p2, p3⟩ := two_alloc w2 (.int .i64 (k : Int)) (.int .i64 (i : Int)) 3
    exact ⟨HB2.out.trans (p1.mono HB2.out.size), HX2.out.stays p1, cell_stays p1 (Nat.le_refl _) HK0.out, p3, p2⟩)
  generalize ((w2.alloc (.cells #[.int .i64 (k : Int)] 3)).alloc (.cells #[.int .i64 (i : Int)] 3)).drew = w5 at *
  generalize w2.heap.size + 1 = bi at *
  generalize w2.heap.size = bk at *
  rotate_left
  all_goals
    obtain ⟨r, HM⟩ := HMR.out
    have HF := hid HM
    have hsb1 := HSB.out
    have e1 := HM.one1
    have e2 := HM.one2
    have e3 := HM.r100
    have ez := HM.zero
    have HCW := hid (fun (j : Nat) (hj : j ≤ 1000) W (h : Below w5.heap.size w5 W) => with_any (some ⟨b, off, none⟩) c E m n i k j bw bi bk W (by omega) hn4.1 (by omega) him hkn (fun s d => by have := HEB.out s d; omega) hj (HF5.out.2.1.stays h) (cell_stays h (Nat.le_refl _) HF5.out.2.2.1) (cell_stays h (Nat.le_refl _) HF5.out.2.2.2.1) (cell_stays h (Nat.le_refl _) HF5.out.2.2.2.2))
    have HSH := hid (fun W (h : Below w5.heap.size w5 W) => HS0.out (some ⟨b, off, none⟩) c W (HF5.out.2.1.stays h))
    have HRM := hid (fun W (h : Below w5.heap.size w5 W) => HR0.out (some ⟨b, off, none⟩) c W (HF5.out.2.1.stays h))
    have HBN := hid (fun W (h : Below w5.heap.size w5 W) => HN0.out (some ⟨b, off, none⟩) c W (HF5.out.2.1.stays h))
    have HSF := hid (fun hs1 W (h : Below w5.heap.size w5 W) => HF0.out hs1 (some ⟨b, off, none⟩) c W (HF5.out.2.1.stays h))
    have HCL := hid (fun W (h : Below w5.heap.size w5 W) => show W.cell? ⟨bw, 0, none⟩ = some (.slice (some ⟨b, off, none⟩) m c) ∧ W.cell? ⟨bi, 0, none⟩ = some (.int .i64 i) ∧ W.cell? ⟨bk, 0, none⟩ = some (.int .i64 k) from ⟨cell_stays h (Nat.le_refl _) HF5.out.2.2.1, cell_stays h (Nat.le_refl _) HF5.out.2.2.2.1, cell_stays h (Nat.le_refl _) HF5.out.2.2.2.2⟩)
    have HR1 := hid (HF.out.room)
    rw [HR1.out] at HRM
    have HA := hid (HF.out.all)
    have HX := hid (HF.out.next)
    have HPr := hid (HP0.out r (by omega))
    have HPn := hid (HP0.out (r + 1) (by omega))
    rw [HA.out] at HPr
    rw [HX.out] at HPn
    clear HM HMR HSB HS0 HR0 HN0 HF0 HP0 HA HX HR1
    have HFW2 := hid HFW.out
    generalize H.sht (H.mat E m n) ((sn : Int) - 1) = M0 at *
    generalize H.sht (H.mat (H.plus E i k 1) m n) (sn : Int) = N1 at *
    generalize H.sht (H.mat E m n) (sn : Int) = N0 at *
    obtain ⟨p0, p1, p2⟩ := HCL.out _ (Below.refl _ _)
    clear HF
    go_wp2_with fail
    refine (HSH.out _ (Below.refl _ _)).mono ?_
    rintro e w6 ⟨rfl, hb⟩
    have HB6 := hid hb
    clear hb p0 p1 p2
    obtain ⟨p0, p1, p2⟩ := HCL.out _ HB6.out
    go_wp2_with fail
    refine (HCW.out 1 (by decide) _ HB6.out).mono ?_
    rintro e w7 ⟨a7, c7, rfl, hx7, hb⟩
    have HB7 := hid (HB6.out.trans (hb.mono HB6.out.size))
    have HQ7 := hid (HQ0.out a7 c7 w7 hx7)
    clear hb hx7 p0 p1 p2
    go_wp2_with fail
    refine HQ7.out.mono ?_
    rintro e w8 ⟨rfl, hb⟩
    have HB8 := hid (HB7.out.trans (hb.mono HB7.out.size))
    obtain ⟨p0, p1, p2⟩ := HCL.out _ HB8.out
    clear hb
    go_wp2_with fail
    refine (HRM.out _ HB8.out).mono ?_
    rintro e w9 ⟨rfl, hb⟩
    have HB9 := hid (HB8.out.trans (hb.mono HB8.out.size))
    clear hb p0 p1 p2
    obtain ⟨p0, p1, p2⟩ := HCL.out _ HB9.out
    have t0 : (N0 != N0) = false := by simp
    go_wp2_with fail
    refine (HBN.out _ HB9.out).mono ?_
    rintro e w10 ⟨rfl, hb⟩
    have HB10 := hid (HB9.out.trans (hb.mono HB9.out.size))
    clear hb p0 p1 p2
    obtain ⟨p0, p1, p2⟩ := HCL.out _ HB10.out
    have t1 : ¬ N1 < N0 := by omega
    have t2 : ¬ N0 + 1 < N1 := by omega
    have t3 : ¬ (r : Int) < 0 := by omega
    have t4 : ¬ (100 : Int) < (r : Int) := by omega
    have t6 : (N0 + 1 != N0 + 1) = false := by simp
    have HCR := hid (HCW.out r (by omega))
    have HCR1 := hid (HCW.out (r + 1) (by omega))
    have t5 : ((r : Int) == 0) = (N1 == N0 + 1) := by
      rw [Bool.eq_iff_iff]
      simp only [beq_iff_eq]
      omega
    have hbr : ((r : Int) == 0) = true ∨ ((r : Int) == 0) = false := by cases ((r : Int) == 0) <;> simp
    have ht5 := hid t5
    clear t5
    have hcast : ((r + 1 : Nat) : Int) = (r : Int) + 1 := by push_cast; rfl
    rw [hcast] at HCR1
    have HS1 : Hid (1 < sn → ¬ M0 < N0) := hid (fun h => by have := HFW2.out (by omega); omega)
    clear hcast HFW2
    rcases hbr with hb1 | hb1
    all_goals
      have hb2 := ht5.out
      rw [hb1] at hb2
      have hb3 := hb2.symm
      clear hb2 ht5
      go_wp2_with fail
      refine (HCR.out _ HB10.out).mono ?_
      rintro e w11 ⟨a11, c11, rfl, hx11, hb⟩
      have HB11 := hid (HB10.out.trans (hb.mono HB10.out.size))
      have HQ11 := hid (HPr.out a11 c11 w11 hx11)
      clear hb hx11 p0 p1 p2
      go_wp2_with fail
      refine HQ11.out.mono ?_
      rintro e w12 ⟨rfl, hb⟩
      have HB12 := hid (HB11.out.trans (hb.mono HB11.out.size))
      obtain ⟨p0, p1, p2⟩ := HCL.out _ HB12.out
      clear hb
      go_wp2_with fail
      refine (HCR1.out _ HB12.out).mono ?_
      rintro e w13 ⟨a13, c13, rfl, hx13, hb⟩
      have HB13 := hid (HB12.out.trans (hb.mono HB12.out.size))
      have HQ13 := hid (HPn.out a13 c13 w13 hx13)
      clear hb hx13 p0 p1 p2
      go_wp2_with fail
      refine HQ13.out.mono ?_
      rintro e w14 ⟨rfl, hb⟩
      have HB14 := hid (HB13.out.trans (hb.mono HB13.out.size))
      obtain ⟨p0, p1, p2⟩ := HCL.out _ HB14.out
      clear hb
      by_cases hs1 : 1 < sn
      · have hs2 : (1 : Int) < (sn : Int) := by omega
        have t7 := HS1.out hs1
        have HSF2 := hid (HSF.out hs1)
        go_wp2_with fail
        refine (HSF2.out _ HB14.out).mono ?_
        rintro e w15 ⟨rfl, hb⟩
        have HB15 := hid (HB14.out.trans (hb.mono HB14.out.size))
        clear hb p0 p1 p2
        go_wp2_with fail
        refine (works_gives _).mono ?_
        rintro e w16 ⟨rfl, hb⟩
        have HB16 := hid (HF5.out.1.trans ((HB15.out.trans (hb.mono HB15.out.size)).mono HF5.out.1.size))
        clear hb
        go_wp2
        go_ret
        exact ⟨rfl, HB16.out⟩
      · have hs2 : ¬ (1 : Int) < (sn : Int) := by omega
        go_wp2_with fail
        refine (works_gives _).mono ?_
        rintro e w16 ⟨rfl, hb⟩
        have HB16 := hid (HF5.out.1.trans ((HB14.out.trans (hb.mono HB14.out.size)).mono HF5.out.1.size))
        clear hb
        go_wp2
        go_ret
        exact ⟨rfl, HB16.out⟩
end Go.Proofs.Ythlcnklbeolhpaa
