/- The walk of made: a table by numbers. -/
import Derived.Test.YtlpdlnefgjmgmaaGrid
import Derived.Deep.RegionHeld3
import Derived.Deep.AppendLies
namespace Go.Proofs.Ytlpdlnefgjmgmaa
open Go.RowKit

/-- The struct by value, from its seventeen numbers. -/
abbrev plate (f : Nat → Nat) : Value := .agg #[.int .u8 (f 0), .int .u8 (f 1), .int .u8 (f 2), .int .u8 (f 3), .int .u8 (f 4), .int .u8 (f 5), .int .u8 (f 6), .int .u8 (f 7), .int .u8 (f 8), .int .u8 (f 9), .int .u8 (f 10), .int .u8 (f 11), .int .u8 (f 12), .int .u8 (f 13), .int .u8 (f 14), .int .u8 (f 15), .int .u8 (f 16)]

/-- The cells from offset 2 on. -/
structure Box17 (w : World) (b : Nat) (f : Nat → Nat) : Prop where
  at' : ∀ k, k < 17 → w.cell? ⟨b, k, none⟩ = some (.int .u8 (f k))

theorem box17 (f : Nat → Nat) (w : World) : Box17 (w.alloc (.cells #[.int .u8 (f 0), .int .u8 (f 1), .int .u8 (f 2), .int .u8 (f 3), .int .u8 (f 4), .int .u8 (f 5), .int .u8 (f 6), .int .u8 (f 7), .int .u8 (f 8), .int .u8 (f 9), .int .u8 (f 10), .int .u8 (f 11), .int .u8 (f 12), .int .u8 (f 13), .int .u8 (f 14), .int .u8 (f 15), .int .u8 (f 16)] 24)) w.heap.size f := ⟨by
  intro k hk
  rw [World.cell?_alloc_at _ _ _ _ rfl]
  have h : k = 0 ∨ k = 1 ∨ k = 2 ∨ k = 3 ∨ k = 4 ∨ k = 5 ∨ k = 6 ∨ k = 7 ∨ k = 8 ∨ k = 9 ∨ k = 10 ∨ k = 11 ∨ k = 12 ∨ k = 13 ∨ k = 14 ∨ k = 15 ∨ k = 16 := by omega
  rcases h with rfl | rfl | rfl | rfl | rfl | rfl | rfl | rfl | rfl | rfl | rfl | rfl | rfl | rfl | rfl | rfl | rfl <;> rfl⟩

theorem Box17.all {w : World} {b : Nat} {f : Nat → Nat} (h : Box17 w b f) :
    w.cell? ⟨b, 2, none⟩ = some (.int .u8 (f 2)) ∧ w.cell? ⟨b, 3, none⟩ = some (.int .u8 (f 3)) ∧ w.cell? ⟨b, 4, none⟩ = some (.int .u8 (f 4)) ∧ w.cell? ⟨b, 5, none⟩ = some (.int .u8 (f 5)) ∧ w.cell? ⟨b, 6, none⟩ = some (.int .u8 (f 6)) ∧
    w.cell? ⟨b, 7, none⟩ = some (.int .u8 (f 7)) ∧ w.cell? ⟨b, 8, none⟩ = some (.int .u8 (f 8)) ∧ w.cell? ⟨b, 9, none⟩ = some (.int .u8 (f 9)) ∧ w.cell? ⟨b, 10, none⟩ = some (.int .u8 (f 10)) ∧ w.cell? ⟨b, 11, none⟩ = some (.int .u8 (f 11)) ∧
    w.cell? ⟨b, 12, none⟩ = some (.int .u8 (f 12)) ∧ w.cell? ⟨b, 13, none⟩ = some (.int .u8 (f 13)) ∧ w.cell? ⟨b, 14, none⟩ = some (.int .u8 (f 14)) ∧ w.cell? ⟨b, 15, none⟩ = some (.int .u8 (f 15)) ∧ w.cell? ⟨b, 16, none⟩ = some (.int .u8 (f 16)) :=
  ⟨h.at' 2 (by omega), h.at' 3 (by omega), h.at' 4 (by omega), h.at' 5 (by omega), h.at' 6 (by omega), h.at' 7 (by omega), h.at' 8 (by omega), h.at' 9 (by omega), h.at' 10 (by omega), h.at' 11 (by omega), h.at' 12 (by omega), h.at' 13 (by omega), h.at' 14 (by omega), h.at' 15 (by omega), h.at' 16 (by omega)⟩

set_option maxHeartbeats 2000000 in
set_option maxRecDepth 100000 in
theorem made_any (f : Nat → Nat) (w : World) (hf : ∀ k, f k < 256) :
    Calls Try.prog 8 #[plate f] w
      fun e w' => ∃ a c T, e = .returned (.slice a T.length c) ∧ Tab T ∧ T.length ≤ 5 ∧ RdM w' a T ∧ Below w.heap.size w w' := by
  have hbx := box17 f w
  obtain ⟨y, hy⟩ : ∃ y : Nat, y = f 0 % 4 := ⟨_, rfl⟩
  obtain ⟨n, hn⟩ : ∃ n : Nat, n = 2 + y := ⟨_, rfl⟩
  have hn2 : 2 ≤ n := by omega
  have hn5 : n ≤ 5 := by omega
  have H1 := hid (show ∀ w', Calls Try.prog 23 #[.int .i64 n, .agg #[.int .u8 (f 2), .int .u8 (f 3), .int .u8 (f 4), .int .u8 (f 5), .int .u8 (f 6)]] w'
      fun e w2 => ∃ a c xs, e = .returned (.slice a xs.length c) ∧ xs.Perm (P.upto n) ∧ RdI w2 a xs ∧ Below w'.heap.size w' w2 from fun w' => arranged_any n (fun k => f (2 + k)) w' hn5 (fun k => hf _))
  have H2 := hid (show ∀ w', Calls Try.prog 23 #[.int .i64 n, .agg #[.int .u8 (f 7), .int .u8 (f 8), .int .u8 (f 9), .int .u8 (f 10), .int .u8 (f 11)]] w'
      fun e w2 => ∃ a c xs, e = .returned (.slice a xs.length c) ∧ xs.Perm (P.upto n) ∧ RdI w2 a xs ∧ Below w'.heap.size w' w2 from fun w' => arranged_any n (fun k => f (7 + k)) w' hn5 (fun k => hf _))
  have H3 := hid (show ∀ w', Calls Try.prog 23 #[.int .i64 n, .agg #[.int .u8 (f 12), .int .u8 (f 13), .int .u8 (f 14), .int .u8 (f 15), .int .u8 (f 16)]] w'
      fun e w2 => ∃ a c xs, e = .returned (.slice a xs.length c) ∧ xs.Perm (P.upto n) ∧ RdI w2 a xs ∧ Below w'.heap.size w' w2 from fun w' => arranged_any n (fun k => f (12 + k)) w' hn5 (fun k => hf _))
  have h0 := hbx.at' 0 (by omega)
  have h0f := hf 0
  have hm4 : ((f 0 : Nat) : Int) % 4 = (y : Int) := by omega
  have hn' : (2 : Int) + (y : Int) = (n : Int) := by omega
  have hy3 : y ≤ 3 := by omega
  clear hy hn
  have HBX := hid hbx; clear hbx
  go_enter Try.func8, Try.ntmps8
  go_wp2
  have HW0 := hid ((Below.refl w.heap.size w).alloc (Nat.le_refl _) (.cells #[.int .u8 (f 0), .int .u8 (f 1), .int .u8 (f 2), .int .u8 (f 3), .int .u8 (f 4), .int .u8 (f 5), .int .u8 (f 6), .int .u8 (f 7), .int .u8 (f 8), .int .u8 (f 9), .int .u8 (f 10), .int .u8 (f 11), .int .u8 (f 12), .int .u8 (f 13), .int .u8 (f 14), .int .u8 (f 15), .int .u8 (f 16)] 24))
  have hsz0 : (w.alloc (.cells #[.int .u8 (f 0), .int .u8 (f 1), .int .u8 (f 2), .int .u8 (f 3), .int .u8 (f 4), .int .u8 (f 5), .int .u8 (f 6), .int .u8 (f 7), .int .u8 (f 8), .int .u8 (f 9), .int .u8 (f 10), .int .u8 (f 11), .int .u8 (f 12), .int .u8 (f 13), .int .u8 (f 14), .int .u8 (f 15), .int .u8 (f 16)] 24)).heap.size = w.heap.size + 1 := by simp
  clear h0
  generalize w.alloc (.cells #[.int .u8 (f 0), .int .u8 (f 1), .int .u8 (f 2), .int .u8 (f 3), .int .u8 (f 4), .int .u8 (f 5), .int .u8 (f 6), .int .u8 (f 7), .int .u8 (f 8), .int .u8 (f 9), .int .u8 (f 10), .int .u8 (f 11), .int .u8 (f 12), .int .u8 (f 13), .int .u8 (f 14), .int .u8 (f 15), .int .u8 (f 16)] 24) = w0 at *
  have HS := hid (show ∀ w', Below w0.heap.size w0 w' → w'.cell? ⟨w.heap.size, 2, none⟩ = some (.int .u8 (f 2)) ∧ w'.cell? ⟨w.heap.size, 3, none⟩ = some (.int .u8 (f 3)) ∧ w'.cell? ⟨w.heap.size, 4, none⟩ = some (.int .u8 (f 4)) ∧ w'.cell? ⟨w.heap.size, 5, none⟩ = some (.int .u8 (f 5)) ∧ w'.cell? ⟨w.heap.size, 6, none⟩ = some (.int .u8 (f 6)) ∧ w'.cell? ⟨w.heap.size, 7, none⟩ = some (.int .u8 (f 7)) ∧ w'.cell? ⟨w.heap.size, 8, none⟩ = some (.int .u8 (f 8)) ∧ w'.cell? ⟨w.heap.size, 9, none⟩ = some (.int .u8 (f 9)) ∧ w'.cell? ⟨w.heap.size, 10, none⟩ = some (.int .u8 (f 10)) ∧ w'.cell? ⟨w.heap.size, 11, none⟩ = some (.int .u8 (f 11)) ∧ w'.cell? ⟨w.heap.size, 12, none⟩ = some (.int .u8 (f 12)) ∧ w'.cell? ⟨w.heap.size, 13, none⟩ = some (.int .u8 (f 13)) ∧ w'.cell? ⟨w.heap.size, 14, none⟩ = some (.int .u8 (f 14)) ∧ w'.cell? ⟨w.heap.size, 15, none⟩ = some (.int .u8 (f 15)) ∧ w'.cell? ⟨w.heap.size, 16, none⟩ = some (.int .u8 (f 16)) from fun w' hb => Box17.all ⟨fun k hk => cell_stays hb (Nat.le_refl _) (HBX.out.at' k hk)⟩)
  have q0 := HBX.out.all
  clear HBX
  go_region_held3 (fun w' => w'.cell? ⟨w.heap.size, 2, none⟩ = some (.int .u8 (f 2)) ∧ w'.cell? ⟨w.heap.size, 3, none⟩ = some (.int .u8 (f 3)) ∧ w'.cell? ⟨w.heap.size, 4, none⟩ = some (.int .u8 (f 4)) ∧ w'.cell? ⟨w.heap.size, 5, none⟩ = some (.int .u8 (f 5)) ∧ w'.cell? ⟨w.heap.size, 6, none⟩ = some (.int .u8 (f 6)) ∧ w'.cell? ⟨w.heap.size, 7, none⟩ = some (.int .u8 (f 7)) ∧ w'.cell? ⟨w.heap.size, 8, none⟩ = some (.int .u8 (f 8)) ∧ w'.cell? ⟨w.heap.size, 9, none⟩ = some (.int .u8 (f 9)) ∧ w'.cell? ⟨w.heap.size, 10, none⟩ = some (.int .u8 (f 10)) ∧ w'.cell? ⟨w.heap.size, 11, none⟩ = some (.int .u8 (f 11)) ∧ w'.cell? ⟨w.heap.size, 12, none⟩ = some (.int .u8 (f 12)) ∧ w'.cell? ⟨w.heap.size, 13, none⟩ = some (.int .u8 (f 13)) ∧ w'.cell? ⟨w.heap.size, 14, none⟩ = some (.int .u8 (f 14)) ∧ w'.cell? ⟨w.heap.size, 15, none⟩ = some (.int .u8 (f 15)) ∧ w'.cell? ⟨w.heap.size, 16, none⟩ = some (.int .u8 (f 16))) (first | exact q3 | exact q2 | exact q1 | exact q0 | go_keep) (first | (go_at_call 23; (with_reducible refine (H1.out _).mono ?_); rintro e w1 ⟨a1, c1, x1, rfl, hp1, hr1, hb1⟩; have hq1 : Below w0.heap.size w0 w1 := ((Below.refl w0.heap.size w0).drew.trans hb1); have q1 := HS.out w1 hq1; have HP1 := hid hp1; have HR1 := hid hr1; have HQ1 := hid hq1; have HB1 := hid hb1; clear hp1 hr1 hb1 hq1) | (go_at_call 23; (with_reducible refine (H2.out _).mono ?_); rintro e w2 ⟨a2, c2, x2, rfl, hp2, hr2, hb2⟩; have hq2 : Below w0.heap.size w0 w2 := (HQ1.out.trans (hb2.mono HQ1.out.size)); have q2 := HS.out w2 hq2; have HP2 := hid hp2; have HR2 := hid hr2; have HQ2 := hid hq2; have HB2 := hid hb2; clear hp2 hr2 hb2 hq2) | (go_at_call 23; (with_reducible refine (H3.out _).mono ?_); rintro e w3 ⟨a3, c3, x3, rfl, hp3, hr3, hb3⟩; have hq3 : Below w0.heap.size w0 w3 := (HQ2.out.trans (hb3.mono HQ2.out.size)); have q3 := HS.out w3 hq3; have HP3 := hid hp3; have HR3 := hid hr3; have HQ3 := hid hq3; have HB3 := hid hb3; clear hp3 hr3 hb3 hq3))
  rename_i hh
  have l1 := (perm_facts HP1.out).1
  have l2 := (perm_facts HP2.out).1
  have l3 := (perm_facts HP3.out).1
  rw [l1, l2, l3]
  obtain ⟨b1, o1, rfl, hn1⟩ := Nums.of ((HR1.out.stays HB2.out).stays HB3.out) HP1.out (by omega)
  obtain ⟨b2, o2, rfl, hn2'⟩ := Nums.of (HR2.out.stays HB3.out) HP2.out (by omega)
  obtain ⟨b3, o3, rfl, hn3⟩ := Nums.of HR3.out HP3.out (by omega)
  obtain ⟨-, rb, -, ri⟩ := perm_facts HP1.out
  obtain ⟨-, cb, -, ci⟩ := perm_facts HP2.out
  obtain ⟨-, mb, -, mi⟩ := perm_facts HP3.out
  have HB := hid (HW0.out.trans (HQ3.out.mono HW0.out.size))
  have HT := hid (tab_three hn2 (by omega) rb cb mb ri ci mi)
  have HN1 := hid hn1
  have HN2 := hid hn2'
  have HN3 := hid hn3
  generalize P.nat x1 = r at *
  generalize P.nat x2 = c at *
  generalize P.nat x3 = m at *
  obtain ⟨E, hE⟩ : ∃ E : Nat → Nat → Nat, E = fun s d => m ((r s + c d) % n) := ⟨_, rfl⟩
  rw [← hE] at HT
  have HE : Hid (∀ s d, E s d = m ((r s + c d) % n)) := hid (fun s d => by rw [hE])
  clear hE
  obtain ⟨i0, hi, hz0, hz1, hz2⟩ := info_parts (show (Try.prog.info? 3).map (fun i => (i.zero, i.size, i.bytes)) = some (some (.int .i64 0), 1, 8) by kernel_rfl)
  have HRB := hid rb
  have HCB := hid cb
  have HMB := hid mb
  clear hh q0 q1 q2 q3 HS HP1 HP2 HP3 HR1 HR2 HR3 HQ1 HQ2 HQ3 HB1 HB2 HB3 HW0 H1 H2 H3 l1 l2 l3 hn1 hn2' hn3 rb cb mb ri ci mi hm4 hn' hy3 h0f hsz0
  have hmk1 := run_make_row' (P := Try.prog) 25 35 (.slice none 0 0) 24 Try.underlying25 (by kernel_rfl) rfl .i64 .i64 n (by omega) (by omega)
  go_wp2
  go_loopg [31] n (fun g i wr => ∃ s : Nat, ∃ av cv : Nat → Nat, s ≤ n ∧ g = n - s ∧ i = .int .i64 s ∧ MOut w3 wr w3.heap.size n E s av cv)
  case atStart => exact ⟨0, fun _ => 0, fun _ => 0, Nat.zero_le _, rfl, rfl, mout_start⟩
  case round =>
    obtain ⟨s, av, cv, hs, rfl, rfl, hO⟩ := hrel
    have HO := hid hO; clear hO
    by_cases hsl : s < n
    · have HI0 := hid (min_start HO.out)
      have HH : Hid (w3.heap.size < wr.heap.size) := hid HO.out.lt
      have HAV : Hid (∀ j, j < s → w3.heap.size < av j ∧ av j < wr.heap.size) := hid (fun j hj => ⟨(HO.out.row j hj).1, (HO.out.row j hj).2.1⟩)
      go_wp2
      obtain ⟨wo, rfl⟩ : ∃ wo : World, wo = wr := ⟨_, rfl⟩
      go_loopg [9] n (fun g2 x wi => ∃ (d : Nat) (v : Value), d ≤ n ∧ g2 = n - d ∧ x = .int .i64 d ∧ MIn w3 wi w3.heap.size n E s av cv wo.heap.size v d)
      case atStart => exact ⟨0, _, Nat.zero_le _, rfl, rfl, HI0.out⟩
      case round =>
        obtain ⟨d, v, hd, rfl, rfl, hI⟩ := hrel
        have HI := hid hI
        by_cases hdl : d < n
        · obtain ⟨a5, c5, rfl⟩ := hI.own.any
          rw [P.tabRow_length] at hI HI
          have hge := hI.ge
          have hHH := HH.out
          have t1 := hI.top.cell hsl
          have t2 := hI.top.frozen s
          rw [if_neg (Nat.lt_irrefl _), if_pos rfl] at t1
          obtain ⟨ix, hix⟩ : ∃ ix : Nat, ix = (r s + c d) % n := ⟨_, rfl⟩
          have hixn : ix < n := by rw [hix]; exact Nat.mod_lt _ (by omega)
          have r1 := HN1.out s hsl
          have r2 := HN2.out d hdl
          have r3 := HN3.out ix hixn
          rw [show m ix = E s d from by rw [HE.out, hix]] at r3
          have hmod : (((r s : Nat) : Int) + ((c d : Nat) : Int)) % (n : Int) = (ix : Int) := by rw [hix]; simp
          have hp0 : (0 : Int) ≤ ((r s : Nat) : Int) + ((c d : Nat) : Int) := by omega
          have hmod2 : (((r s : Nat) : Int) + ((c d : Nat) : Int)).tmod (n : Int) = (ix : Int) := by rw [Int.tmod_eq_emod_of_nonneg hp0, hmod]
          clear hmod
          have hrs := HRB.out s hsl
          have hcd := HCB.out d hdl
          have hwr : IntKind.i64.wrap (((r s : Nat) : Int) + ((c d : Nat) : Int)) = ((r s : Nat) : Int) + ((c d : Nat) : Int) := IntWalk.i64_in _ (by omega)
          have k1 := World.block_lt_of_cell? _ _ r1
          have k2 := World.block_lt_of_cell? _ _ r2
          have k3 := World.block_lt_of_cell? _ _ r3
          have SF := hid (show ∀ W : World, (∀ q, q < wo.heap.size → W.heap[q]? = wr.heap[q]?) → (W.cell? ⟨w3.heap.size, s, none⟩ = some (.slice a5 d c5) ∧ W.cell? ⟨b1, o1 + s, none⟩ = some (.int .i64 (r s)) ∧ W.cell? ⟨b2, o2 + d, none⟩ = some (.int .i64 (c d)) ∧ W.cell? ⟨b3, o3 + ix, none⟩ = some (.int .i64 (E s d))) ∧ W.frozen? ⟨w3.heap.size, s, none⟩ = false from fun W hW =>
            ⟨⟨(World.cell?_of_block (hW w3.heap.size hHH)).trans t1, (World.cell?_of_block (hW b1 (by simp at k1; omega))).trans (cell_stays hI.below (Nat.le_refl _) r1), (World.cell?_of_block (hW b2 (by simp at k2; omega))).trans (cell_stays hI.below (Nat.le_refl _) r2), (World.cell?_of_block (hW b3 (by simp at k3; omega))).trans (cell_stays hI.below (Nat.le_refl _) r3)⟩, (World.frozen?_of_block (hW w3.heap.size hHH)).trans t2⟩)
          have HF := hid (show ∀ Wa w4 : World, Wa.grownBy w4 (Value.ownBlock (.slice a5 d c5)) → Wa.heap = (wr.alloc (.cells #[.int .i64 (E s d)] 3)).heap → ∀ q, q < wo.heap.size → w4.heap[q]? = wr.heap[q]? from fun Wa w4 hg hWa q hq => by
            rw [hg.block q (by rw [hWa]; simp; omega) (fun e => by have := (OwnV.lt hI.own q e.symm).1; omega), hWa]
            exact Below.heap_alloc _ _ _ (by omega))
          have FA := hid (show ∀ W : World, W.heap = (wr.alloc (.cells #[.int .i64 (E s d)] 3)).heap → W.ownsRow wo.heap.size 3 1 (.slice a5 d c5) d ((P.tabRow d E s).map (Value.int .i64)) ∧ [Value.int .i64 (E s d)].length = 1 ∧ (∀ j u, [Value.int .i64 (E s d)][j]? = some u → W.cell? ((⟨wr.heap.size, 0, none⟩ : Addr).add j) = some u) ∧ (∀ u ∈ [Value.int .i64 (E s d)], u.oneCell' = true) ∧ d + 1 ≤ 1000 ∧ wo.heap.size ≤ W.heap.size from fun W hW => by
            refine ⟨ownsRow_heap (World.ownsRow.alloc (by have := hI.own; unfold OwnV at this; rwa [P.tabRow_length] at this) _) hW, rfl, ?_, fun u hu => by simp at hu; subst hu; rfl, by omega, by rw [hW]; simp; omega⟩
            intro j u hj
            match j, hj with
            | 0, hj => simp at hj; subst hj; rw [cell_heap hW]; simp [Addr.add])
          have q0 := (SF.out wr (fun q _ => rfl)).1
          have hx1 : (0 : Int) ≤ (s : Int) ∧ (s : Int) < (n : Int) := by omega
          have hx2 : (0 : Int) ≤ (d : Int) ∧ (d : Int) < (n : Int) := by omega
          have hx3 : (0 : Int) ≤ (ix : Int) ∧ (ix : Int) < (n : Int) := by omega
          have hne : ¬ (n : Int) = 0 := by omega
          have hne' : ¬ n = 0 := by omega
          have hne2 : ¬ (n : Int) = -1 := by omega
          clear hI t1 t2 r1 r2 r3 k1 k2 k3 hix
          go_wp2
          obtain ⟨q1, q2, q3, q4⟩ := q0
          have qa := (SF.out (wr.alloc (.cells #[.int .i64 (E s d)] 3)) (fun q hq => Below.heap_alloc wr _ q (by omega))).1.1
          go_region_law first | (refine step_append_at rfl (.tmp 44) (.tmp 59) 35 (by rfl) 3 i0 (.int .i64 0) Try.underlying35 hi hz0 hz1 (by rw [hz2]; decide) rfl wo.heap.size (.slice a5 d c5) d ((P.tabRow d E s).map (Value.int .i64)) (by simp [Act.eval]) ⟨wr.heap.size, 0, none⟩ 1 1 [.int .i64 (E s d)] (by simp [Act.eval]) (FA.out _ rfl) ?_; intro v1 w4 ho1 hg1 ha1; obtain ⟨g6, c6, rfl, hg6⟩ := World.ownsRow.form ho1 (by omega); have qS := (SF.out w4 (HF.out _ w4 hg1 rfl)).1.1; have qF := (SF.out w4 (HF.out _ w4 hg1 rfl)).2)
          all_goals clear qS qF q1 q2 q3 q4 qa hmod2 hp0 hwr hrs hcd SF HF FA hne hne' hne2 hx1 hx2 hx3 ha1 hg6
          all_goals (try go_wp2)
          all_goals
            go_roundg (n - (d + 1))
            case measure => omega
            case rel => exact ⟨d + 1, _, by omega, rfl, by go_num, min_step HI.out HH.out HAV.out hsl (by exact ⟨rfl, rfl, rfl, rfl⟩) ho1 hg1 (by exact ⟨rfl, rfl, rfl, rfl⟩)⟩
        · have hdn : d = n := by omega
          subst hdn
          obtain ⟨av', cv', hO2⟩ := min_done HI.out (by omega) HH.out HAV.out
          have HO2 := hid hO2
          clear hI hO2
          go_wp2
          go_roundg (d - (s + 1))
          case measure => omega
          case rel => exact ⟨s + 1, av', cv', by omega, rfl, by go_num, HO2.out⟩
    · have hsn : s = n := by omega
      subst hsn
      have HR := hid (mout_rd HO.out)
      have HBB := hid (HB.out.trans (HO.out.below.mono HB.out.size))
      clear HO
      go_wp2
      go_ret
      exact ⟨_, s, P.tab s E, by rw [P.tab_length]; rfl, HT.out, by rw [P.tab_length]; exact hn5, HR.out, HBB.out⟩

end Go.Proofs.Ytlpdlnefgjmgmaa
