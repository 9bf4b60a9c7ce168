/- The walk of the law HoursHalves. -/
import Derived.Test.YthlcnklbeolhpaaHMade2
import Derived.Deep.DeepCutAuto
import Derived.Deep.RegionHeld3
namespace Go.Proofs.Ythlcnklbeolhpaa
open Go.RowKit Ev

theorem H.one_new (W : World) (z : Value) (e : TypeId) : ∀ j u, [z][j]? = some u → (W.alloc (.cells #[z] e)).cell? ((⟨W.heap.size, 0, none⟩ : Addr).add j) = some u := by
  intro j u hj
  match j, hj with
  | 0, hj => simp at hj; subst hj; exact H.one z e (W := W) rfl
theorem H.rdm_rows {w : World} {b off m n : Nat} {E : Nat → Nat → Nat} (hx : RdM w (some ⟨b, off, none⟩) (H.mat E m n)) (hcp : H.Caps w (some ⟨b, off, none⟩) (H.mat E m n)) (hn : 1 ≤ n) : ∀ s, s < m → ∃ b' o' c, w.cell? ⟨b, off + s, none⟩ = some (.slice (some ⟨b', o', none⟩) n c) ∧ n ≤ c ∧ ∀ d, d < n → w.cell? ⟨b', o' + d, none⟩ = some (.int .i64 (E s d)) := by
  intro s hs
  have hs' : s < (H.mat E m n).length := by rwa [H.mat_len]
  obtain ⟨b1, o1, r, c, ha, hc, hr⟩ := hx s hs'
  simp only [Option.some.injEq, Addr.mk.injEq, and_true] at ha
  obtain ⟨rfl, rfl⟩ := ha
  rw [H.mat_row hs'] at hr hc
  rw [H.mrow_len] at hc
  obtain ⟨b', o', rfl, _⟩ := hr 0 (by rw [H.mrow_len]; omega)
  obtain ⟨b2, o2, r2, c2, ha2, hc2, hle⟩ := hcp s hs'
  simp only [Option.some.injEq, Addr.mk.injEq, and_true] at ha2
  obtain ⟨rfl, rfl⟩ := ha2
  rw [H.mat_row hs', H.mrow_len] at hc2 hle
  have hcc : c = c2 := by
    rw [hc] at hc2
    simp only [Option.some.injEq, Value.slice.injEq] at hc2
    exact hc2.2.2
  refine ⟨b', o', c, hc, by omega, fun d hd => ?_⟩
  obtain ⟨b2, o2, he, hcell⟩ := hr d (by rw [H.mrow_len]; exact hd)
  simp only [Option.some.injEq, Addr.mk.injEq, and_true] at he
  obtain ⟨rfl, rfl⟩ := he
  rw [hcell]
  simp [H.mrow]
theorem H.HM.new2 {w1 wr : World} {n : Nat} {v : Nat → Value} {xs : Nat → List Value} (h : H.HM w1 wr n H.hty v xs) (hn : n ≤ 4) (s : Nat) (o : Obj) : H.HM w1 ((wr.alloc o).alloc (.cells #[] 3)) n H.hty (H.vf v s (wr.heap.size + 1)) (H.xf xs s) := by
  have := (h.alloc o).new hn s
  rwa [show (wr.alloc o).heap.size = wr.heap.size + 1 by simp] at this
theorem H.one2 (W : World) (o : Obj) (z : Value) (e : TypeId) : ((W.alloc o).alloc (.cells #[z] e)).cell? ⟨W.heap.size + 1, 0, none⟩ = some z := by
  have := H.one (W := W.alloc o) z e rfl
  rwa [show (W.alloc o).heap.size = W.heap.size + 1 by simp] at this
theorem H.one3 (W : World) (o : Obj) (z : Value) (e : TypeId) : ((W.alloc (.cells #[z] e)).alloc o).cell? ⟨W.heap.size, 0, none⟩ = some z := by
  have := H.one (W := W) z e rfl
  exact (World.cell?_of_block (Below.heap_alloc _ _ _ (World.block_lt_of_cell? _ _ this))).trans this
theorem H.HO.below {w1 wr : World} {m n sn : Nat} {E : Nat → Nat → Nat} {t s : Nat} {v2 v3 v4 : Value} (h : H.HO w1 wr m n sn E t s v2 v3 v4) : Below w1.heap.size w1 wr := by
  obtain ⟨v, xs, hM, _⟩ := h; exact hM.below
theorem H.HO.same {w1 wr W : World} {m n sn : Nat} {E : Nat → Nat → Nat} {t s : Nat} {v2 v3 v4 : Value} (h : H.HO w1 wr m n sn E t s v2 v3 v4) (k : Same W wr) : H.HO w1 W m n sn E t s v2 v3 v4 := by
  obtain ⟨v, xs, hM, r⟩ := h; exact ⟨v, xs, hM.same k, r⟩
/-- The source of the first append. -/
theorem H.src {w1 : World} {b o n r : Nat} {E : Nat → Nat → Nat} (h : ∀ d, d < n → w1.cell? ⟨b, o + d, none⟩ = some (.int .i64 (E r d))) (W : World) (hb : Below w1.heap.size w1 W) : ∀ k (hk : k < ((H.mrow E n r).drop 1).length), W.cell? ((⟨b, o + 1, none⟩ : Addr).add k) = some (.int .i64 ((H.mrow E n r).drop 1)[k]) := by
  intro k hk
  have hk2 : 1 + k < n := by rw [List.length_drop, H.mrow_len] at hk; omega
  rw [Addr.add_lit, show o + 1 + k = o + (1 + k) by omega]
  refine cell_stays hb (Nat.le_refl _) ?_
  rw [h (1 + k) hk2]
  simp [H.mrow, Nat.add_comm]
theorem H.turned_rd {w1 wr : World} {m n : Nat} {F : Nat → Nat → Nat} {v : Nat → Value} {xs : Nat → List Value} (h : H.HM w1 wr n H.hty v xs) (hr : ∀ k, k < n → xs (10 + k) = H.ints (H.mrow F m k)) : RdM wr (some ⟨w1.heap.size, 0, none⟩) (H.mat F n m) := by
  intro k hk
  have hkn : k < n := by rwa [H.mat_len] at hk
  obtain ⟨r, cr, er⟩ := h.sep.form (10 + k)
  have hl : (xs (10 + k)).length = m := by rw [hr k hkn, H.ints_len, H.mrow_len]
  rw [hl] at er
  rw [H.mat_row hk, H.mrow_len]
  refine ⟨w1.heap.size, 0, r, cr, rfl, ?_, ?_⟩
  · rw [Nat.zero_add, h.top.cell hkn, er]
  · have hor := h.own (i := 10 + k) (by omega) er (hr k hkn) (by rw [H.ints_len, H.mrow_len])
    have hrow : RowI wr (w1.heap.size + 1) (.slice r m cr) (H.mrow F m k) := by
      unfold RowI
      rw [H.mrow_len]
      exact hor
    exact hrow.rdI (n := m)
theorem H.keepT {w1 w3 w4 : World} {n : Nat} {v : Nat → Value} {xs : Nat → List Value} {i : Nat} {u : Value} {o : Obj} (h : H.HM w1 w3 n H.hty v xs) (hu : v i = u) (hg : (w3.alloc o).grownBy w4 u.ownBlock) : w4.heap[w1.heap.size]? = w3.heap[w1.heap.size]? := by
  subst hu
  rw [((h.alloc o).grownB i hg).2]
  exact Below.heap_alloc _ _ _ h.lt

set_option maxHeartbeats 16000000 in
set_option maxRecDepth 100000 in
theorem hoursHalves_any (f : Nat → Nat) (x : Nat) (w : World) (hf : ∀ k, f k < 256) (hx : x < 256) :
    Calls Try.prog 12 #[bench f, .int .u8 x] w fun e w' => e = .returned (.bool true) ∧ Below w.heap.size w w' := by
  obtain ⟨i0, hi, hz0, hz1, hz2⟩ := info_parts (show (Try.prog.info? 3).map (fun i => (i.zero, i.size, i.bytes)) = some (some (.int .i64 0), 1, 8) by kernel_rfl)
  obtain ⟨i1, gi, gz0, gz1, gz2⟩ := info_parts (show (Try.prog.info? 27).map (fun i => (i.zero, i.size, i.bytes)) = some (some (.slice none 0 0), 1, 24) by kernel_rfl)
  have HB0 := hid ((Below.refl w.heap.size w).alloc (Nat.le_refl _) (.cells #[.int .u8 (f 0), .int .u8 (f 1), .int .u8 (f 2), .int .u8 (f 3), .int .u8 (f 4), .int .u8 (f 5), .int .u8 (f 6), .int .u8 (f 7), .int .u8 (f 8), .int .u8 (f 9), .int .u8 (f 10), .int .u8 (f 11), .int .u8 (f 12), .int .u8 (f 13), .int .u8 (f 14), .int .u8 (f 15), .int .u8 (f 16), .int .u8 (f 17), .int .u8 (f 18)] 61))
  have HMD := hid (fun W => made2_any f 6 W hf (by decide))
  have HRG := hid (box19 f w).agg
  generalize hw0 : w.alloc (.cells #[.int .u8 (f 0), .int .u8 (f 1), .int .u8 (f 2), .int .u8 (f 3), .int .u8 (f 4), .int .u8 (f 5), .int .u8 (f 6), .int .u8 (f 7), .int .u8 (f 8), .int .u8 (f 9), .int .u8 (f 10), .int .u8 (f 11), .int .u8 (f 12), .int .u8 (f 13), .int .u8 (f 14), .int .u8 (f 15), .int .u8 (f 16), .int .u8 (f 17), .int .u8 (f 18)] 61) = w0 at *
  have HW0 := hid hw0
  clear hw0
  obtain ⟨m, hm⟩ : ∃ m : Nat, m = 1 + f 0 % 4 := ⟨_, rfl⟩
  obtain ⟨n, hn⟩ : ∃ n : Nat, n = 1 + f 1 % 4 := ⟨_, rfl⟩
  obtain ⟨sn, hsn⟩ : ∃ sn : Nat, sn = 1 + f 2 % 5 := ⟨_, rfl⟩
  have HT : Hid (H.bT f 6 = H.mat (H.bE f 6) m n ∧ H.bS f = sn) := hid ⟨by unfold H.bT; rw [hm, hn], by unfold H.bS; rw [hsn]⟩
  rw [HT.out.1, HT.out.2] at HMD
  have hm4 : 1 ≤ m ∧ m ≤ 4 := by omega
  have hn4 : 1 ≤ n ∧ n ≤ 4 := by omega
  have hs5 : 1 ≤ sn ∧ sn ≤ 5 := by omega
  have HEB : Hid (∀ s d, H.bE f 6 s d ≤ 6) := hid (fun s d => by unfold H.bE; have := Nat.mod_lt (f (3 + (4 * s + d))) (show 0 < 6 + 1 by omega); omega)
  have HTL := hid (H.mat_len (H.bE f 6) m n)
  rw [HTL.out] at HMD
  clear hm hn hsn HT HTL
  generalize H.bE f 6 = E at *
  have HWK := hid works_gives
  have HS0 := hid (fun (F : Nat → Nat → Nat) (m' n' : Nat) (hm' : 1 ≤ m' ∧ m' ≤ 4) (hn' : 1 ≤ n' ∧ n' ≤ 4) (hF : ∀ s d, F s d ≤ 30) (a : Option Addr) (c : Nat) W (hx : RdM W a (H.mat F m' n')) => show Calls Try.prog 19 #[.slice a m' c, .int .i64 (sn : Int)] W fun e w' => e = .returned (.tuple #[.int .i64 (H.sht (H.mat F m' n') sn), .int .i64 0]) ∧ Below W.heap.size W w' from by
    have hok := H.mat_ok (E := F) hm'.1 (by omega) hn'.1 (by omega) hF
    have hck2 := hok.chks (s := (sn : Int)) (by omega) (by omega)
    have := Shortest_any a c (H.mat F m' n') sn W hok.lens.1 hok.lens.2 hx
    unfold H.shE at this
    rwa [if_pos hck2, hck2, H.mat_len] at this)
  have hz0' : 0 ≤ H.sht (H.mat E m n) sn ∧ H.sht (H.mat E m n) sn ≤ 96 := by
    refine ⟨H.sht_nonneg _ _, (H.mat_sht hm4.1 (by omega) (by decide)).2 ⟨fun i _ => ?_, fun d _ => ?_, ?_⟩⟩
    · have := (H.rs_bd (b := 6) HEB.out i n).2; omega
    · have := (H.cs_bd (b := 6) HEB.out d m).2; omega
    · have := H.ts_le (E := E) (n := n) (x := 24) m (fun i _ => by have := (H.rs_bd (b := 6) HEB.out i n).2; omega)
      omega
  have he2 := H.sht_ek (E := E) (m := m) (n := n) hm4.1 (s := (sn : Int)) (by omega) (k := 2) (by decide)
  have he3 := H.sht_ek (E := E) (m := m) (n := n) hm4.1 (s := (sn : Int)) (by omega) (k := sn) hs5.1
  have hp : (sn : Int) * H.sht (H.mat E m n) sn ≤ 5 * 96 := Int.mul_le_mul (by omega) hz0'.2 hz0'.1 (by decide)
  have hp0 : 0 ≤ (sn : Int) * H.sht (H.mat E m n) sn := Int.mul_nonneg (by omega) hz0'.1
  have HS1 := hid (HS0.out E m n hm4 hn4 (fun s d => by have := HEB.out s d; omega))
  have HS2 := hid (HS0.out (H.ek 2 E) m n hm4 hn4 (fun s d => by have := HEB.out s d; unfold H.ek; omega))
  have HS3 := hid (HS0.out (H.ek sn E) m n hm4 hn4 (fun s d => by have h1 := HEB.out s d; have h2 : sn * E s d ≤ 5 * 6 := Nat.mul_le_mul hs5.2 h1; unfold H.ek; omega))
  have HS4 := hid (HS0.out (H.eT E) n m hn4 hm4 (fun s d => by have := HEB.out d s; unfold H.eT; omega))
  have HS5 := hid (HS0.out (H.eM E m n x) m n hm4 hn4 (fun s d => by have := HEB.out ((s + x) % m) ((d + 1) % n); unfold H.eM; omega))
  rw [H.sht_eT hm4.1 hn4.1 (by omega)] at HS4
  rw [H.sht_eM x hm4 hn4 (by omega)] at HS5
  obtain ⟨he21, he22⟩ := he2
  have he31 := he3.1
  clear he3 HS0
  generalize H.sht (H.mat E m n) sn = z at *
  generalize H.sht (H.mat (H.ek 2 E) m n) sn = z2 at *
  generalize H.sht (H.mat (H.ek sn E) m n) sn = z3 at *
  have HZ := hid (show (0 ≤ z ∧ z ≤ 96) ∧ z2 ≤ 2 * z ∧ z ≤ z2 ∧ z3 ≤ (sn : Int) * z ∧ 0 ≤ (sn : Int) * z ∧ (sn : Int) * z ≤ 480 from ⟨hz0', he21, he22, he31, hp0, hp⟩)
  clear hz0' he21 he22 he31 hp0 hp
  go_enter Try.func12, Try.ntmps12
  go_wp2_with (refine wpList_load_mid rfl 61 _ rfl w.heap.size 0 rfl [.int .u8 (f 0), .int .u8 (f 1), .int .u8 (f 2), .int .u8 (f 3), .int .u8 (f 4), .int .u8 (f 5), .int .u8 (f 6), .int .u8 (f 7), .int .u8 (f 8), .int .u8 (f 9), .int .u8 (f 10), .int .u8 (f 11), .int .u8 (f 12), .int .u8 (f 13), .int .u8 (f 14), .int .u8 (f 15), .int .u8 (f 16), .int .u8 (f 17), .int .u8 (f 18)] _ (by rw [HW0.out]; exact HRG.out) Try.underlying61 rfl (by kernel_rfl) ?_)
  rw [HW0.out]
  refine (HMD.out _).mono ?_
  rintro e w1 ⟨a, c, rfl, hx1, hcaps, hb⟩
  have HB1 := hid (HB0.out.trans (hb.mono HB0.out.size))
  obtain ⟨b, off, r0, c0, rfl, _, _⟩ := hx1 0 (by rw [H.mat_len]; omega)
  have HX1 := hid (fun W (h : Below w1.heap.size w1 W) => hx1.stays h)
  have HXR := hid (H.rdm_rows hx1 hcaps hn4.1)
  have hxt : HS1.out = HS1.out := rfl
  clear hxt hb hx1 hcaps HMD HRG HW0 HB0
  obtain ⟨b9, o9, c9, q9, _, _⟩ := HXR.out 0 (by omega)
  rw [Nat.add_zero] at q9
  have hm0 : (0 : Int) < (m : Int) := by omega
  have hmk := run_make_row' (P := Try.prog) 22 27 (.slice none 0 0) 24 Try.underlying22 (by kernel_rfl) rfl .i64 .i64 n (by omega) (by omega)
  go_wp2
  clear hmk q9
  go_loopg [7, 8, 9, 39] m (fun g p2 p3 p4 i wr => ∃ (s : Nat) (v2 v3 v4 : Value), v2 = p2 ∧ v3 = p3 ∧ v4 = p4 ∧ s ≤ m ∧ g = m - s ∧ i = .int .i64 s ∧ H.HO w1 wr m n sn E x s v2 v3 v4)
  case atStart => exact ⟨0, _, _, _, rfl, rfl, rfl, Nat.zero_le _, rfl, rfl, H.HO.start⟩
  case round =>
    obtain ⟨s, v2, v3, v4, rfl, rfl, rfl, hs, rfl, rfl, hO⟩ := hrel
    by_cases hsl : s < m
    · obtain ⟨v, xs, hI, e20, e30⟩ := hO.inner hn4.2 (by omega)
      have HI0 := hid hI
      have HE0 := hid (And.intro e20 e30)
      obtain ⟨b2, o2, cr, hc, _, hr⟩ := HXR.out s hsl
      have HRW := hid hr
      have q0 := cell_stays hI.mem.below (Nat.le_refl _) hc
      have hix : (0 : Int) ≤ (s : Int) ∧ (s : Int) < (m : Int) := by omega
      clear hO hI hc hr e20 e30
      go_wp2
      obtain ⟨wo, rfl⟩ : ∃ wo : World, wo = wr := ⟨_, rfl⟩
      clear q0
      go_loopg [12, 13, 47] n (fun g2 vx vy i wi => ∃ (d : Nat) (v : Nat → Value) (xs : Nat → List Value), d ≤ n ∧ g2 = n - d ∧ i = .int .i64 d ∧ vx = v (20 + s) ∧ vy = v (30 + s) ∧ H.HI w1 wi m n sn E x v xs s d v2 v3 v4)
      case atStart => exact ⟨0, v, xs, Nat.zero_le _, rfl, rfl, HE0.out.1.symm, HE0.out.2.symm, HI0.out⟩
      case round =>
        clear HI0 HE0 v xs
        obtain ⟨d, v, xs, hd, rfl, rfl, rfl, rfl, hI⟩ := hrel
        have HI := hid hI
        by_cases hdl : d < n
        · have c1 := cell_stays hI.mem.below (Nat.le_refl _) (HRW.out d hdl)
          have he6 := HEB.out s d
          have HZ2 : Hid ((2 : Int) * (E s d : Int) = (H.ek 2 E s d : Int)) := hid (by unfold H.ek; push_cast; rfl)
          have HZ3 : Hid ((sn : Int) * (E s d : Int) = (H.ek sn E s d : Int)) := hid (by unfold H.ek; push_cast; rfl)
          have hw3 : IntKind.i64.wrap ((sn : Int) * (E s d : Int)) = (sn : Int) * (E s d : Int) := by
            have h2 : sn * E s d ≤ 5 * 6 := Nat.mul_le_mul hs5.2 he6
            have h3 : (sn : Int) * (E s d : Int) = ((sn * E s d : Nat) : Int) := by push_cast; rfl
            rw [h3]
            exact IntWalk.i64_in _ (by omega)
          have hw2 : IntKind.i64.wrap ((2 : Int) * (E s d : Int)) = 2 * (E s d : Int) := IntWalk.i64_in _ (by omega)
          have HM1 : Hid (d + 1 ≤ maxLen) := hid (by unfold maxLen; omega)
          have HM2 : Hid ((d + 1) * 8 ≤ 140737488355328) := hid (by omega)
          have HM3 : Hid (s + 1 ≤ maxLen) := hid (by unfold maxLen; omega)
          have HM4 : Hid ((s + 1) * 8 ≤ 140737488355328) := hid (by omega)
          have hdx : (0 : Int) ≤ (d : Int) ∧ (d : Int) < (n : Int) := by omega
          have OX := hid (fun o => HI.out.ownx o)
          have LX := hid (fun o => (HI.out.mem.alloc o).lt)
          clear hI
          go_wp2_with (at_builtin; refine wpList_append_own_at _ rfl _ _ 27 rfl (w1.heap.size + 1) 3 i0 (.int .i64 0) 1 8 Try.underlying27 hi hz0 hz1 hz2 rfl (by decide) _ _ _ rfl (OX.out _) ⟨wr.heap.size, 0, none⟩ 1 1 [.int .i64 (2 * (E s d : Int))] rfl rfl (H.one_new _ _ _) (fun u hu => by simp at hu; subst hu; rfl) HM1.out HM2.out (LX.out _) ?_)
          intro u1 w2 hown hgrow _ hat
          have HP2 := hid (HI.out.putx hn4.2 HZ2.out hown hgrow hat)
          have OY := hid (fun o => HI.out.owny HP2.out o)
          have LY := hid (fun o => (HP2.out.alloc o).lt)
          clear hown hgrow hat OX LX c1
          go_wp2_with (at_builtin; refine wpList_append_own_at _ rfl _ _ 27 rfl (w1.heap.size + 1) 3 i0 (.int .i64 0) 1 8 Try.underlying27 hi hz0 hz1 hz2 rfl (by decide) _ _ _ rfl (OY.out _) ⟨w2.heap.size, 0, none⟩ 1 1 [.int .i64 ((sn : Int) * (E s d : Int))] rfl rfl (H.one_new _ _ _) (fun u hu => by simp at hu; subst hu; rfl) HM1.out HM2.out (LY.out _) ?_)
          intro u2 w3 hown hgrow _ hat
          have HP3 := hid (HI.out.puty hn4.2 HP2.out HZ3.out hown hgrow hat)
          obtain ⟨ot, ⟨at1, ct1, et⟩, tc⟩ := HI.out.ownt hn4.2 hdl HP3.out
          have tf := HP3.out.top.frozen d
          simp only [et] at ot tc
          have OT := hid ot
          have LT := hid (fun o => (HP3.out.alloc o).lt)
          clear hown hgrow hat OY LY ot
          go_wp2_with (at_builtin; refine wpList_append_own_at _ rfl _ _ 27 rfl (w1.heap.size + 1) 3 i0 (.int .i64 0) 1 8 Try.underlying27 hi hz0 hz1 hz2 rfl (by decide) _ _ _ rfl (OT.out _) ⟨w3.heap.size, 0, none⟩ 1 1 [.int .i64 (E s d : Int)] rfl rfl (H.one_new _ _ _) (fun u hu => by simp at hu; subst hu; rfl) HM3.out HM4.out (LT.out _) ?_)
          intro u3 w4 hown hgrow _ hat
          obtain ⟨gg, cg, rfl, _⟩ := World.ownsRow.form hown (by omega)
          rw [← et] at hgrow hat
          have hk := H.keepT (i := 10 + d) HP3.out (by rw [Sep.up_other _ _ (by omega), Sep.up_other _ _ (by omega)]) hgrow
          have tc4 := (World.cell?_of_block (a := ⟨w1.heap.size, d, none⟩) hk).trans tc
          have tf4 := (World.frozen?_of_block (a := ⟨w1.heap.size, d, none⟩) hk).trans tf
          obtain ⟨vn, xn, hIn, ex, ey⟩ := HI.out.putt hn4.2 (by omega) hdl HP3.out hown hgrow hat
          have HIN := hid hIn
          have HEX := hid (And.intro ex.symm ey.symm)
          clear hown hgrow hat hIn ex ey tc tf OT LT hk
          go_wp2
          go_roundg (n - (d + 1))
          case measure => omega
          case rel => exact ⟨d + 1, vn, xn, by omega, rfl, by go_num, HEX.out.1, HEX.out.2, HIN.out⟩
        · obtain rfl : n = d := by omega
          obtain ⟨⟨ax, cx, ex⟩, ⟨ay, cy, ey⟩⟩ := hI.rows
          rw [ex, ey]
          have HM1 : Hid (s + 1 ≤ maxLen) := hid (by unfold maxLen; omega)
          have HM2 : Hid ((s + 1) * 24 ≤ 140737488355328) := hid (by omega)
          have O2 := hid (fun o => HI.out.own2 o)
          have L2 := hid (fun o => (HI.out.mem.alloc o).lt)
          clear hI
          go_wp2_with (at_builtin; refine wpList_append_own_at _ rfl _ _ 22 rfl (w1.heap.size + 1) 27 i1 (.slice none 0 0) 1 24 Try.underlying22 gi gz0 gz1 gz2 rfl (by decide) _ _ _ rfl (O2.out _) ⟨wr.heap.size, 0, none⟩ 1 1 [.slice ax n cx] rfl rfl (H.one_new _ _ _) (fun u hu => by simp at hu; subst hu; rfl) HM1.out HM2.out (L2.out _) ?_)
          intro u2 w2 hown hgrow _ hat
          have HP2 := hid (HI.out.put2 ex hown hgrow hat)
          have O3 := hid (fun o => HI.out.own3 HP2.out o)
          have L3 := hid (fun o => (HP2.out.alloc o).lt)
          clear hown hgrow hat O2 L2
          go_wp2_with (at_builtin; refine wpList_append_own_at _ rfl _ _ 22 rfl (w1.heap.size + 1) 27 i1 (.slice none 0 0) 1 24 Try.underlying22 gi gz0 gz1 gz2 rfl (by decide) _ _ _ rfl (O3.out _) ⟨w2.heap.size, 0, none⟩ 1 1 [.slice ay n cy] rfl rfl (H.one_new _ _ _) (fun u hu => by simp at hu; subst hu; rfl) HM1.out HM2.out (L3.out _) ?_)
          intro u3 w3 hown hgrow _ hat
          obtain ⟨vn, xn, hMn, hCn, f2, f3, f4⟩ := HI.out.put3 (by omega) HP2.out ey hown hgrow hat
          have HRR : Hid (H.HR w1 w3 m n sn E x vn xn s u2 u3 v4) := hid ⟨hMn, hCn, f2, f3, f4⟩
          clear hown hgrow hat O3 L3 hMn hCn f2 f3 f4 HP2 HI ex ey
          obtain ⟨r, hr⟩ : ∃ r, r = (s + x) % m := ⟨_, rfl⟩
          have hrm : r < m := by rw [hr]; exact Nat.mod_lt _ (by omega)
          have HR := hid hr
          obtain ⟨b3, o3, c3, hc3, hcap3, hr3⟩ := HXR.out r hrm
          have q3 := cell_stays HRR.out.mem.below (Nat.le_refl _) hc3
          have hmod : ((s : Int) + (x : Int)).tmod (m : Int) = (r : Int) := by rw [Int.tmod_eq_emod_of_nonneg (by omega), hr]; push_cast; rfl
          have hwx : IntKind.i64.wrap (x : Int) = (x : Int) := IntWalk.i64_in _ (by omega)
          have hwsx : IntKind.i64.wrap ((s : Int) + (x : Int)) = (s : Int) + (x : Int) := IntWalk.i64_in _ (by omega)
          have hne1 : ¬ (m : Int) = 0 := by omega
          have hne2 : ¬ (m : Int) = -1 := by omega
          have hrx : (0 : Int) ≤ (r : Int) ∧ (r : Int) < (m : Int) := by omega
          have HR3 := hid hr3
          clear hr hc3 hr3
          go_upto_region 16 with (fail)
          have HLEN : Hid ((H.ints ((H.mrow E n r).drop 1)).length = n - 1) := hid (by rw [H.ints_len, List.length_drop, H.mrow_len])
          have HL4 : Hid (n - 1 ≤ 4) := hid (by omega)
          have HS4s : Hid (s < 4) := hid (by omega)
          have HA1 := hid (HRR.out.mem.new hn4.2 s)
          have HA2 := hid (HA1.out.alloc (.cells #[.int .i64 (E r 0)] 3))
          have HB1x := hid (HRR.out.mem.alloc (.cells #[.int .i64 (E r 0)] 3))
          have HA3 := hid (HRR.out.mem.new2 hn4.2 s (.cells #[.int .i64 (E r 0)] 3))
          have HC2 := hid (H.one2 w3 (.cells #[] 3) (.int .i64 (E r 0)) 3)
          have HC3 := hid (H.one3 w3 (.cells #[] 3) (.int .i64 (E r 0)) 3)
          have hq30 : w1.cell? ⟨b3, o3, none⟩ = some (.int .i64 (E r 0)) := by simpa using HR3.out 0 (by omega)
          have QK := hid (fun W (h : Below w1.heap.size w1 W) => cell_stays h (Nat.le_refl _) hq30)
          have q30 := QK.out w3 HRR.out.mem.below
          have hb1n : (1 : Int) ≤ (n : Int) := by omega
          have hb0n : (0 : Int) < (n : Int) := by omega
          have hb00 : 0 < n := by omega
          have hb01 : 1 ≤ n := by omega
          have hb02 : (0 : Int) ≤ 0 ∧ (0 : Int) < (n : Int) := by omega
          have hbne : ¬ n = 0 := by omega
          have hbie : ¬ (n : Int) ≤ 0 := by omega
          clear hq30
          by_cases hcap : c3 = 1
          · subst hcap
            have ARM := hid (fun (W : World) (N : Nat) (h : H.HM w1 W n H.hty (H.vf vn s N) (H.xf xn s)) => H.arm1 (l := H.mrow E n r) (ad := ⟨b3, o3, none⟩) h (H.mrow_len _ _ _) hn4 (fun k hk => by rw [List.length_drop, H.mrow_len] at hk; omega))
            go_region_held3 (fun W => W.cell? ⟨b3, o3, none⟩ = some (.int .i64 (E r 0))) (first | exact QK.out _ (below_same HA1.out.below (by exact ⟨rfl, rfl, rfl, rfl⟩)) | exact QK.out _ (below_same HA2.out.below (by exact ⟨rfl, rfl, rfl, rfl⟩)) | exact QK.out _ (below_same HA3.out.below (by exact ⟨rfl, rfl, rfl, rfl⟩)) | exact QK.out _ (below_same HB1x.out.below (by exact ⟨rfl, rfl, rfl, rfl⟩)) | exact QK.out _ (below_same HRR.out.mem.below (by exact ⟨rfl, rfl, rfl, rfl⟩)) | exact QK.out _ (below_same hb6.out (by exact ⟨rfl, rfl, rfl, rfl⟩)) | exact QK.out _ (below_same hm2a.out.below (by exact ⟨rfl, rfl, rfl, rfl⟩)) | exact QK.out _ (below_same hm2.out.below (by exact ⟨rfl, rfl, rfl, rfl⟩)) | exact QK.out _ (below_same hmx.out.below (by exact ⟨rfl, rfl, rfl, rfl⟩)) | exact QK.out _ (below_same hm1.out.below (by exact ⟨rfl, rfl, rfl, rfl⟩)) | go_keep) (first | (refine step_append_at rfl (.tmp 93) (.tmp 95) 27 (by rfl) 3 i0 (.int .i64 0) Try.underlying27 hi hz0 hz1 (by rw [hz2]; decide) rfl (w1.heap.size + 1) (.slice (some ⟨w3.heap.size, 0, none⟩) 0 0) 0 [] (by simp [Act.eval]) ⟨b3, o3, none⟩ (n - 1) 0 (H.ints ((H.mrow E n r).drop 1)) (by simp [Act.eval] <;> omega) (ARM.out _ _ (H.HM.same HA1.out (by exact ⟨rfl, rfl, rfl, rfl⟩))) ?_; intro v1 w4 ho1 hg1 ha1; have hm1 := hid (H.next1 (H.HM.same HA1.out (by exact ⟨rfl, rfl, rfl, rfl⟩)) hn4.2 HLEN.out ho1 hg1 ha1); have hmx := hid (hm1.out.alloc (.cells #[.int .i64 (E r 0)] 3)); have hc1 := hid (H.one (W := w4) (.int .i64 (E r 0)) 3 rfl); clear ho1 hg1 ha1) | (refine step_append_at rfl (.tmp 93) (.tmp 95) 27 (by rfl) 3 i0 (.int .i64 0) Try.underlying27 hi hz0 hz1 (by rw [hz2]; decide) rfl (w1.heap.size + 1) (.slice (some ⟨w3.heap.size, 0, none⟩) 0 0) 0 [] (by simp [Act.eval]) ⟨b3, o3, none⟩ (n - 1) 0 (H.ints ((H.mrow E n r).drop 1)) (by simp [Act.eval] <;> omega) (ARM.out _ _ (H.HM.same HA2.out (by exact ⟨rfl, rfl, rfl, rfl⟩))) ?_; intro v1 w4 ho1 hg1 ha1; have hm1 := hid (H.next1 (H.HM.same HA2.out (by exact ⟨rfl, rfl, rfl, rfl⟩)) hn4.2 HLEN.out ho1 hg1 ha1); have hc1 := hid (H.other hg1 (by exact Nat.succ_ne_self _) ((cell_heap (by exact rfl) _).trans HC2.out)); clear ho1 hg1 ha1) | (refine step_append_at rfl (.tmp 93) (.tmp 95) 27 (by rfl) 3 i0 (.int .i64 0) Try.underlying27 hi hz0 hz1 (by rw [hz2]; decide) rfl (w1.heap.size + 1) (.slice (some ⟨w3.heap.size + 1, 0, none⟩) 0 0) 0 [] (by simp [Act.eval]) ⟨b3, o3, none⟩ (n - 1) 0 (H.ints ((H.mrow E n r).drop 1)) (by simp [Act.eval] <;> omega) (ARM.out _ _ (H.HM.same HA3.out (by exact ⟨rfl, rfl, rfl, rfl⟩))) ?_; intro v1 w4 ho1 hg1 ha1; have hm1 := hid (H.next1 (H.HM.same HA3.out (by exact ⟨rfl, rfl, rfl, rfl⟩)) hn4.2 HLEN.out ho1 hg1 ha1); have hc1 := hid (H.other hg1 (by exact (Nat.succ_ne_self _).symm) ((cell_heap (by exact rfl) _).trans HC3.out)); clear ho1 hg1 ha1) | (refine step_append_at rfl (.tmp 96) (.tmp 100) 27 (by rfl) 3 i0 (.int .i64 0) Try.underlying27 hi hz0 hz1 (by rw [hz2]; decide) rfl (w1.heap.size + 1) v1 (n - 1) (H.ints ((H.mrow E n r).drop 1)) (by simp [Act.eval]) ⟨w4.heap.size, 0, none⟩ 1 1 [.int .i64 (E r 0)] (by simp [Act.eval]) (H.arm2 (H.HM.same hmx.out (by exact ⟨rfl, rfl, rfl, rfl⟩)) HLEN.out HL4.out ((cell_heap (by exact rfl) _).trans hc1.out)) ?_; intro v2 w5 ho2 hg2 ha2; have hm2 := hid (H.next2 (H.HM.same hmx.out (by exact ⟨rfl, rfl, rfl, rfl⟩)) hn4.2 HLEN.out ho2 hg2 ha2); rw [show n - 1 + 1 = n by omega] at ho2; obtain ⟨g2, c2, rfl, _⟩ := World.ownsRow.form ho2 (by omega); have hm2a := hid (hm2.out.alloc (.cells #[.slice (some ⟨g2, 0, none⟩) n c2] 27)); clear ho2 hg2 ha2) | (refine step_append_at rfl (.tmp 96) (.tmp 100) 27 (by rfl) 3 i0 (.int .i64 0) Try.underlying27 hi hz0 hz1 (by rw [hz2]; decide) rfl (w1.heap.size + 1) v1 (n - 1) (H.ints ((H.mrow E n r).drop 1)) (by simp [Act.eval]) ⟨w3.heap.size + 1, 0, none⟩ 1 1 [.int .i64 (E r 0)] (by simp [Act.eval]) (H.arm2 (H.HM.same hm1.out (by exact ⟨rfl, rfl, rfl, rfl⟩)) HLEN.out HL4.out ((cell_heap (by exact rfl) _).trans hc1.out)) ?_; intro v2 w5 ho2 hg2 ha2; have hm2 := hid (H.next2 (H.HM.same hm1.out (by exact ⟨rfl, rfl, rfl, rfl⟩)) hn4.2 HLEN.out ho2 hg2 ha2); rw [show n - 1 + 1 = n by omega] at ho2; obtain ⟨g2, c2, rfl, _⟩ := World.ownsRow.form ho2 (by omega); have hm2a := hid (hm2.out.alloc (.cells #[.slice (some ⟨g2, 0, none⟩) n c2] 27)); clear ho2 hg2 ha2) | (refine step_append_at rfl (.tmp 96) (.tmp 100) 27 (by rfl) 3 i0 (.int .i64 0) Try.underlying27 hi hz0 hz1 (by rw [hz2]; decide) rfl (w1.heap.size + 1) v1 (n - 1) (H.ints ((H.mrow E n r).drop 1)) (by simp [Act.eval]) ⟨w3.heap.size, 0, none⟩ 1 1 [.int .i64 (E r 0)] (by simp [Act.eval]) (H.arm2 (H.HM.same hm1.out (by exact ⟨rfl, rfl, rfl, rfl⟩)) HLEN.out HL4.out ((cell_heap (by exact rfl) _).trans hc1.out)) ?_; intro v2 w5 ho2 hg2 ha2; have hm2 := hid (H.next2 (H.HM.same hm1.out (by exact ⟨rfl, rfl, rfl, rfl⟩)) hn4.2 HLEN.out ho2 hg2 ha2); rw [show n - 1 + 1 = n by omega] at ho2; obtain ⟨g2, c2, rfl, _⟩ := World.ownsRow.form ho2 (by omega); have hm2a := hid (hm2.out.alloc (.cells #[.slice (some ⟨g2, 0, none⟩) n c2] 27)); clear ho2 hg2 ha2) | (refine step_append_at rfl (.tmp 92) (.tmp 102) 22 (by rfl) 27 i1 (.slice none 0 0) Try.underlying22 gi gz0 gz1 (by rw [gz2]; decide) rfl (w1.heap.size + 1) v4 s ((List.range s).map fun j => vn (40 + j)) (by simp [Act.eval]) ⟨w5.heap.size, 0, none⟩ 1 1 [.slice (some ⟨g2, 0, none⟩) n c2] (by simp [Act.eval]) (HRR.out.arm3 (e := 27) HS4s.out hm2.out rfl (by exact ⟨rfl, rfl, rfl, rfl⟩)) ?_; intro u4 w6 ho3 hg3 ha3; have hO := hid (HRR.out.next3 (e := 27) hn4 HS4s.out HR.out hm2.out (by exact ⟨rfl, rfl, rfl, rfl⟩) ho3 hg3 ha3); have hb6 := hid hO.out.below; clear ho3 hg3 ha3))
            all_goals (try go_wp2)
            all_goals
              go_roundg (m - (s + 1))
              case measure => omega
              case rel => exact ⟨s + 1, _, _, _, rfl, rfl, rfl, by omega, rfl, by go_num, by exact hO.out.same ⟨rfl, rfl, rfl, rfl⟩⟩
          · have hcap2 : ¬ c3 - 1 = 0 := by omega
            have hcap4 : ¬ c3 ≤ 1 := by omega
            have ARM := hid (fun (W : World) (N : Nat) (h : H.HM w1 W n H.hty (H.vf vn s N) (H.xf xn s)) => H.arm1 (l := H.mrow E n r) (ad := ⟨b3, o3 + 1, none⟩) h (H.mrow_len _ _ _) hn4 (fun k hk => H.src HR3.out W h.below k hk))
            go_region_held3 (fun W => W.cell? ⟨b3, o3, none⟩ = some (.int .i64 (E r 0))) (first | exact QK.out _ (below_same HA1.out.below (by exact ⟨rfl, rfl, rfl, rfl⟩)) | exact QK.out _ (below_same HA2.out.below (by exact ⟨rfl, rfl, rfl, rfl⟩)) | exact QK.out _ (below_same HA3.out.below (by exact ⟨rfl, rfl, rfl, rfl⟩)) | exact QK.out _ (below_same HB1x.out.below (by exact ⟨rfl, rfl, rfl, rfl⟩)) | exact QK.out _ (below_same HRR.out.mem.below (by exact ⟨rfl, rfl, rfl, rfl⟩)) | exact QK.out _ (below_same hb6.out (by exact ⟨rfl, rfl, rfl, rfl⟩)) | exact QK.out _ (below_same hm2a.out.below (by exact ⟨rfl, rfl, rfl, rfl⟩)) | exact QK.out _ (below_same hm2.out.below (by exact ⟨rfl, rfl, rfl, rfl⟩)) | exact QK.out _ (below_same hmx.out.below (by exact ⟨rfl, rfl, rfl, rfl⟩)) | exact QK.out _ (below_same hm1.out.below (by exact ⟨rfl, rfl, rfl, rfl⟩)) | go_keep) (first | (refine step_append_at rfl (.tmp 93) (.tmp 95) 27 (by rfl) 3 i0 (.int .i64 0) Try.underlying27 hi hz0 hz1 (by rw [hz2]; decide) rfl (w1.heap.size + 1) (.slice (some ⟨w3.heap.size, 0, none⟩) 0 0) 0 [] (by simp [Act.eval]) ⟨b3, o3 + 1, none⟩ (n - 1) (c3 - 1) (H.ints ((H.mrow E n r).drop 1)) (by simp [Act.eval] <;> omega) (ARM.out _ _ (H.HM.same HA1.out (by exact ⟨rfl, rfl, rfl, rfl⟩))) ?_; intro v1 w4 ho1 hg1 ha1; have hm1 := hid (H.next1 (H.HM.same HA1.out (by exact ⟨rfl, rfl, rfl, rfl⟩)) hn4.2 HLEN.out ho1 hg1 ha1); have hmx := hid (hm1.out.alloc (.cells #[.int .i64 (E r 0)] 3)); have hc1 := hid (H.one (W := w4) (.int .i64 (E r 0)) 3 rfl); clear ho1 hg1 ha1) | (refine step_append_at rfl (.tmp 93) (.tmp 95) 27 (by rfl) 3 i0 (.int .i64 0) Try.underlying27 hi hz0 hz1 (by rw [hz2]; decide) rfl (w1.heap.size + 1) (.slice (some ⟨w3.heap.size, 0, none⟩) 0 0) 0 [] (by simp [Act.eval]) ⟨b3, o3 + 1, none⟩ (n - 1) (c3 - 1) (H.ints ((H.mrow E n r).drop 1)) (by simp [Act.eval] <;> omega) (ARM.out _ _ (H.HM.same HA2.out (by exact ⟨rfl, rfl, rfl, rfl⟩))) ?_; intro v1 w4 ho1 hg1 ha1; have hm1 := hid (H.next1 (H.HM.same HA2.out (by exact ⟨rfl, rfl, rfl, rfl⟩)) hn4.2 HLEN.out ho1 hg1 ha1); have hc1 := hid (H.other hg1 (by exact Nat.succ_ne_self _) ((cell_heap (by exact rfl) _).trans HC2.out)); clear ho1 hg1 ha1) | (refine step_append_at rfl (.tmp 93) (.tmp 95) 27 (by rfl) 3 i0 (.int .i64 0) Try.underlying27 hi hz0 hz1 (by rw [hz2]; decide) rfl (w1.heap.size + 1) (.slice (some ⟨w3.heap.size + 1, 0, none⟩) 0 0) 0 [] (by simp [Act.eval]) ⟨b3, o3 + 1, none⟩ (n - 1) (c3 - 1) (H.ints ((H.mrow E n r).drop 1)) (by simp [Act.eval] <;> omega) (ARM.out _ _ (H.HM.same HA3.out (by exact ⟨rfl, rfl, rfl, rfl⟩))) ?_; intro v1 w4 ho1 hg1 ha1; have hm1 := hid (H.next1 (H.HM.same HA3.out (by exact ⟨rfl, rfl, rfl, rfl⟩)) hn4.2 HLEN.out ho1 hg1 ha1); have hc1 := hid (H.other hg1 (by exact (Nat.succ_ne_self _).symm) ((cell_heap (by exact rfl) _).trans HC3.out)); clear ho1 hg1 ha1) | (refine step_append_at rfl (.tmp 96) (.tmp 100) 27 (by rfl) 3 i0 (.int .i64 0) Try.underlying27 hi hz0 hz1 (by rw [hz2]; decide) rfl (w1.heap.size + 1) v1 (n - 1) (H.ints ((H.mrow E n r).drop 1)) (by simp [Act.eval]) ⟨w4.heap.size, 0, none⟩ 1 1 [.int .i64 (E r 0)] (by simp [Act.eval]) (H.arm2 (H.HM.same hmx.out (by exact ⟨rfl, rfl, rfl, rfl⟩)) HLEN.out HL4.out ((cell_heap (by exact rfl) _).trans hc1.out)) ?_; intro v2 w5 ho2 hg2 ha2; have hm2 := hid (H.next2 (H.HM.same hmx.out (by exact ⟨rfl, rfl, rfl, rfl⟩)) hn4.2 HLEN.out ho2 hg2 ha2); rw [show n - 1 + 1 = n by omega] at ho2; obtain ⟨g2, c2, rfl, _⟩ := World.ownsRow.form ho2 (by omega); have hm2a := hid (hm2.out.alloc (.cells #[.slice (some ⟨g2, 0, none⟩) n c2] 27)); clear ho2 hg2 ha2) | (refine step_append_at rfl (.tmp 96) (.tmp 100) 27 (by rfl) 3 i0 (.int .i64 0) Try.underlying27 hi hz0 hz1 (by rw [hz2]; decide) rfl (w1.heap.size + 1) v1 (n - 1) (H.ints ((H.mrow E n r).drop 1)) (by simp [Act.eval]) ⟨w3.heap.size + 1, 0, none⟩ 1 1 [.int .i64 (E r 0)] (by simp [Act.eval]) (H.arm2 (H.HM.same hm1.out (by exact ⟨rfl, rfl, rfl, rfl⟩)) HLEN.out HL4.out ((cell_heap (by exact rfl) _).trans hc1.out)) ?_; intro v2 w5 ho2 hg2 ha2; have hm2 := hid (H.next2 (H.HM.same hm1.out (by exact ⟨rfl, rfl, rfl, rfl⟩)) hn4.2 HLEN.out ho2 hg2 ha2); rw [show n - 1 + 1 = n by omega] at ho2; obtain ⟨g2, c2, rfl, _⟩ := World.ownsRow.form ho2 (by omega); have hm2a := hid (hm2.out.alloc (.cells #[.slice (some ⟨g2, 0, none⟩) n c2] 27)); clear ho2 hg2 ha2) | (refine step_append_at rfl (.tmp 96) (.tmp 100) 27 (by rfl) 3 i0 (.int .i64 0) Try.underlying27 hi hz0 hz1 (by rw [hz2]; decide) rfl (w1.heap.size + 1) v1 (n - 1) (H.ints ((H.mrow E n r).drop 1)) (by simp [Act.eval]) ⟨w3.heap.size, 0, none⟩ 1 1 [.int .i64 (E r 0)] (by simp [Act.eval]) (H.arm2 (H.HM.same hm1.out (by exact ⟨rfl, rfl, rfl, rfl⟩)) HLEN.out HL4.out ((cell_heap (by exact rfl) _).trans hc1.out)) ?_; intro v2 w5 ho2 hg2 ha2; have hm2 := hid (H.next2 (H.HM.same hm1.out (by exact ⟨rfl, rfl, rfl, rfl⟩)) hn4.2 HLEN.out ho2 hg2 ha2); rw [show n - 1 + 1 = n by omega] at ho2; obtain ⟨g2, c2, rfl, _⟩ := World.ownsRow.form ho2 (by omega); have hm2a := hid (hm2.out.alloc (.cells #[.slice (some ⟨g2, 0, none⟩) n c2] 27)); clear ho2 hg2 ha2) | (refine step_append_at rfl (.tmp 92) (.tmp 102) 22 (by rfl) 27 i1 (.slice none 0 0) Try.underlying22 gi gz0 gz1 (by rw [gz2]; decide) rfl (w1.heap.size + 1) v4 s ((List.range s).map fun j => vn (40 + j)) (by simp [Act.eval]) ⟨w5.heap.size, 0, none⟩ 1 1 [.slice (some ⟨g2, 0, none⟩) n c2] (by simp [Act.eval]) (HRR.out.arm3 (e := 27) HS4s.out hm2.out rfl (by exact ⟨rfl, rfl, rfl, rfl⟩)) ?_; intro u4 w6 ho3 hg3 ha3; have hO := hid (HRR.out.next3 (e := 27) hn4 HS4s.out HR.out hm2.out (by exact ⟨rfl, rfl, rfl, rfl⟩) ho3 hg3 ha3); have hb6 := hid hO.out.below; clear ho3 hg3 ha3))
            all_goals (try go_wp2)
            all_goals
              go_roundg (m - (s + 1))
              case measure => omega
              case rel => exact ⟨s + 1, _, _, _, rfl, rfl, rfl, by omega, rfl, by go_num, by exact hO.out.same ⟨rfl, rfl, rfl, rfl⟩⟩
    · obtain rfl : m = s := by omega
      obtain ⟨v, xs, hM, hC, rfl, rfl, rfl⟩ := hO
      obtain ⟨a2, c2, e2, hr2⟩ := H.sep_rd hM.sep (i := 2) (b := 20) (by omega) hC.two hC.r2
      obtain ⟨a3, c3, e3, hr3⟩ := H.sep_rd hM.sep (i := 3) (b := 30) (by omega) hC.tim hC.r3
      obtain ⟨a4, c4, e4, hr4⟩ := H.sep_rd hM.sep (i := 4) (b := 40) (by omega) hC.mov hC.r4
      have ht := H.turned_rd hM (fun k hk => by have := hC.trn k hk; rwa [if_neg (Nat.not_lt_zero _)] at this)
      rw [e2, e3, e4]
      have HEB0 := hid hM.below
      have K1 := hid (HS1.out _ c wr (HX1.out wr hM.below))
      have K2 := hid (fun W (h : Below wr.heap.size wr W) => HS2.out _ c2 W (hr2.stays h))
      have K3 := hid (fun W (h : Below wr.heap.size wr W) => HS3.out _ c3 W (hr3.stays h))
      have K4 := hid (fun W (h : Below wr.heap.size wr W) => HS4.out _ n W (ht.stays h))
      have K5 := hid (fun W (h : Below wr.heap.size wr W) => HS5.out _ c4 W (hr4.stays h))
      obtain ⟨⟨f1, f2⟩, f3, f4, f5, f6, f7⟩ := HZ.out
      have f8 : z < 1000 := by omega
      have hw1 : IntKind.i64.wrap (2 * z) = 2 * z := IntWalk.i64_in _ (by omega)
      have hw2 : IntKind.i64.wrap ((sn : Int) * z) = (sn : Int) * z := IntWalk.i64_in _ (by omega)
      have hzz : (z == z) = true := by simp
      clear hM hC hr2 hr3 hr4 ht e2 e3 e4 HX1 HXR HS1 HS2 HS3 HS4 HS5
      go_wp2_with fail
      refine K1.out.mono ?_
      rintro e w5 ⟨rfl, hb⟩
      have HL1 := hid hb
      clear hb
      go_wp2_with fail
      refine (K2.out _ HL1.out).mono ?_
      rintro e w6 ⟨rfl, hb⟩
      have HL2 := hid (HL1.out.trans (hb.mono HL1.out.size))
      clear hb
      go_wp2_with fail
      refine (K3.out _ HL2.out).mono ?_
      rintro e w7 ⟨rfl, hb⟩
      have HL3 := hid (HL2.out.trans (hb.mono HL2.out.size))
      clear hb
      go_wp2_with fail
      refine (K4.out _ HL3.out).mono ?_
      rintro e w8 ⟨rfl, hb⟩
      have HL4 := hid (HL3.out.trans (hb.mono HL3.out.size))
      clear hb
      go_wp2_with fail
      refine (K5.out _ HL4.out).mono ?_
      rintro e w9 ⟨rfl, hb⟩
      have HL5 := hid (HL4.out.trans (hb.mono HL4.out.size))
      clear hb
      go_wp2_with fail
      refine (HWK.out _).mono ?_
      rintro e w10 ⟨rfl, hb⟩
      have HL6 := hid (HB1.out.trans ((HEB0.out.trans ((HL5.out.trans (hb.mono HL5.out.size)).mono HEB0.out.size)).mono HB1.out.size))
      clear hb
      go_wp2
      go_ret
      exact ⟨rfl, HL6.out⟩
end Go.Proofs.Ythlcnklbeolhpaa
