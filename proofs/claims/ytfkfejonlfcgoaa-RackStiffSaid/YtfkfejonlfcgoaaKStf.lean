/- The walk of the law RackStiff. -/
import Derived.Test.YtfkfejonlfcgoaaKRNdd
import Derived.Test.YtfkfejonlfcgoaaKWorks
import Derived.Deep.RegionHeld3
namespace Go.Proofs.Ytfkfejonlfcgoaa
open Go.RowKit Ev

theorem K.gs_small (M : Nat → Nat → Bool) (m N : Nat) : ∀ p, ∀ x ∈ K.gs M m N p, x.1.length ≤ N ∧ x.2.length ≤ N
  | 0 => fun x h => by simp [K.gs] at h
  | p + 1 => fun x h => by
    unfold K.gs at h
    split at h
    · exact K.gs_small M m N p x h
    · rcases List.mem_append.1 h with h | h
      · exact K.gs_small M m N p x h
      · simp at h
        subst h
        exact ⟨K.rw_len M m p N, K.cl_len M m p N⟩
theorem K.gsr_small (m n : Int) (bs : List Br) : (K.gsr m n bs).length ≤ 12 ∧ ∀ x ∈ K.gsr m n bs, x.1.length ≤ 12 ∧ x.2.length ≤ 12 := by
  unfold K.gsr
  split
  · rename_i h
    obtain ⟨p, q, rfl, rfl, hok⟩ := K.chk_ok h
    have h6 := hok.m6
    have h66 := hok.n6
    simp only [Int.toNat_natCast]
    unfold K.gsv
    refine ⟨Nat.le_trans (K.gs_len _ _ _ _) (by omega), fun x hx => ?_⟩
    have := K.gs_small _ _ _ _ x hx
    omega
  · exact ⟨Nat.zero_le _, fun x h => by cases h⟩
theorem K.ndl_small (m n : Int) (bs : List Br) : (K.ndl m n bs).length ≤ bs.length := by
  unfold K.ndl
  split
  · split
    · exact K.nd_len _ _ _ _
    · exact Nat.zero_le _
  · exact Nat.zero_le _
theorem RdG.stays {w w' : World} {a : Option Addr} {gs : List (List Int × List Int)} (h : RdG w a gs) (hb : Below w.heap.size w w') : RdG w' a gs := fun k hk => by
  obtain ⟨b, off, r1, c1, r2, c2, e, q1, q2, i1, i2⟩ := h k hk
  exact ⟨b, off, r1, c1, r2, c2, e, cell_stays hb (Nat.le_refl _) q1, cell_stays hb (Nat.le_refl _) q2, i1.stays hb, i2.stays hb⟩
theorem RdI.stays' {w w' : World} {a : Option Addr} {xs : List Int} (h : RdI w a xs) (hb : Below w.heap.size w w') : RdI w' a xs := fun k hk => by
  obtain ⟨b, off, e, q⟩ := h k hk
  exact ⟨b, off, e, cell_stays hb (Nat.le_refl _) q⟩

set_option maxHeartbeats 8000000 in
set_option maxRecDepth 100000 in
theorem rackStiff_walk (m n : Int) (a : Option Addr) (c : Nat) (bs : List Br) (w : World) (hc1 : bs.length ≤ c) (hc2 : c ≤ maxLen) (hR : RdB w a bs) :
    Calls Try.prog 3 #[K.rk m n a bs.length c] w fun e w' => e = .returned (.bool true) ∧ Below w.heap.size w w' := by
  have hm : bs.length ≤ maxLen := by omega
  obtain ⟨HB0, hbx⟩ := box_rack w m n a c bs hR
  have HBX := hid hbx
  have hr0 := hR.stays HB0.out
  by_cases h60 : 60 < bs.length
  · have HWK := hid works_gives
    unfold maxLen at hm hc2
    unfold K.rk
    clear hbx hR hr0
    go_enter Try.func3, Try.ntmps3
    go_wp2_with fail
    refine (HWK.out _).mono ?_
    rintro e w3 ⟨rfl, hb⟩
    have HB3 := hid (HB0.out.trans (hb.mono HB0.out.size))
    clear hb
    go_wp2
    go_ret
    exact ⟨rfl, HB3.out⟩
  have HGV := hid (given_any m n a c bs _ (by omega) hr0)
  have HS1 := hid (fun W hx => stiff_any m n a c bs W hm hx)
  have HG1 := hid (fun W hx => groups_any m n a c bs W hm hx)
  have HN1 := hid (fun W hx => needed_any m n a c bs W hc1 hc2 hx)
  have HC1 := hid (fun W hx => check_any m n a c bs W hm hx)
  have HS2 := hid (fun a1 c1 W hx => refStiff_any m n a1 c1 bs W hm hx)
  have HG2 := hid (fun a1 c1 W hx => refGroups_any m n a1 c1 bs W hm hx)
  have HN2 := hid (fun a1 c1 W h1 h2 hx => refNeeded_any m n a1 c1 bs W h1 h2 hx)
  have HC2 := hid (fun a1 c1 W hx => refCheck_any m n a1 c1 bs W hm hx)
  have HGE := hid (fun r1 r2 k1 k2 W h1 h2 => groups_eq r1 r2 k1 k2 (K.gsr m n bs) W (by have := (K.gsr_small m n bs).1; unfold maxLen; omega) (fun k h => by have := (K.gsr_small m n bs).2 _ (List.getElem_mem h); unfold maxLen; omega) h1 h2)
  have HNE := hid (fun r1 r2 k1 k2 W h1 h2 => numbers_eq r1 r2 k1 k2 (K.ndl m n bs) W (Nat.le_trans (K.ndl_small m n bs) hm) h1 h2)
  unfold K.Gvn at HGV
  unfold K.GsE at HG1
  unfold K.GsER at HG2
  unfold K.LsE at HN1 HN2
  unfold K.rk at HGV HS1 HG1 HN1 HC1 HS2 HG2 HN2 HC2 ⊢
  generalize K.gsr m n bs = gs at *
  generalize K.ndl m n bs = nd at *
  generalize K.nde m n bs = ne at *
  generalize K.stf m n bs = st at *
  generalize K.chk m n bs = ce at *
  clear hbx hR hr0
  unfold maxLen at hm hc2
  go_enter Try.func3, Try.ntmps3
  go_wp2_with fail
  refine HGV.out.mono ?_
  rintro e w1 ⟨a1, c1, rfl, h11, h12, hr1, hb⟩
  obtain ⟨k0, k1, k2, hra, hbw, hsz⟩ := HBX.out w1 hb
  have HX1 := hid h11
  have HX2 := hid h12
  have hbA : Below w1.heap.size w1 (w1.alloc (.cells #[.int .i64 m, .int .i64 n, .slice a1 bs.length c1] 28)) := (Below.refl _ _).alloc (Nat.le_refl _) _
  have HJ0 : Hid ((w1.alloc (.cells #[.int .i64 m, .int .i64 n, .slice a1 bs.length c1] 28)).cell? ⟨w1.heap.size, 0, none⟩ = some (.int .i64 m)) := hid (by rw [World.cell?_alloc_at _ _ _ _ rfl]; rfl)
  have HJ1 : Hid ((w1.alloc (.cells #[.int .i64 m, .int .i64 n, .slice a1 bs.length c1] 28)).cell? ⟨w1.heap.size, 1, none⟩ = some (.int .i64 n)) := hid (by rw [World.cell?_alloc_at _ _ _ _ rfl]; rfl)
  have HJ2 : Hid ((w1.alloc (.cells #[.int .i64 m, .int .i64 n, .slice a1 bs.length c1] 28)).cell? ⟨w1.heap.size, 2, none⟩ = some (.slice a1 bs.length c1)) := hid (by rw [World.cell?_alloc_at _ _ _ _ rfl]; rfl)
  have HQ0 := hid (cell_stays hbA (Nat.le_refl _) k0)
  have HQ1 := hid (cell_stays hbA (Nat.le_refl _) k1)
  have HQ2 := hid (cell_stays hbA (Nat.le_refl _) k2)
  have HRA3 := hid (hra.stays hbA)
  have HRX3 := hid (hr1.stays hbA)
  have HB3 := hid (hbw.trans (hbA.mono hbw.size))
  clear hbA hb hra hbw hr1 h11 h12 HBX HB0 HGV
  go_wp2_with fail
  clear k0 k1 k2 hsz
  generalize w1.alloc (.cells #[.int .i64 m, .int .i64 n, .slice a1 bs.length c1] 28) = w3 at *
  generalize w1.heap.size = g at *
  clear w1
  have HCELL := hid (fun W (h : Below w3.heap.size w3 W) => show W.cell? ⟨w.heap.size, 0, none⟩ = some (.int .i64 m) ∧ W.cell? ⟨w.heap.size, 1, none⟩ = some (.int .i64 n) ∧ W.cell? ⟨w.heap.size, 2, none⟩ = some (.slice a bs.length c) ∧ W.cell? ⟨g, 0, none⟩ = some (.int .i64 m) ∧ W.cell? ⟨g, 1, none⟩ = some (.int .i64 n) ∧ W.cell? ⟨g, 2, none⟩ = some (.slice a1 bs.length c1) from
    ⟨cell_stays h (Nat.le_refl _) HQ0.out, cell_stays h (Nat.le_refl _) HQ1.out, cell_stays h (Nat.le_refl _) HQ2.out, cell_stays h (Nat.le_refl _) HJ0.out, cell_stays h (Nat.le_refl _) HJ1.out, cell_stays h (Nat.le_refl _) HJ2.out⟩)
  have HRA := hid (fun W (h : Below w3.heap.size w3 W) => HRA3.out.stays h)
  have HRX := hid (fun W (h : Below w3.heap.size w3 W) => HRX3.out.stays h)
  refine (HS1.out w3 HRA3.out).mono ?_
  rintro e w4 ⟨rfl, hb⟩
  have HE4 := hid hb
  obtain ⟨p0, p1, p2, u0, u1, u2⟩ := HCELL.out _ hb
  clear hb HQ0 HQ1 HQ2 HJ0 HJ1 HJ2 HRA3 HRX3 HS1
  go_wp2_with fail
  refine (HS2.out _ _ w4 (HRX.out _ HE4.out)).mono ?_
  rintro e w5 ⟨rfl, hb⟩
  have HE5 := hid (HE4.out.trans (hb.mono HE4.out.size))
  clear hb HE4 HS2 p0 p1 p2 u0 u1 u2
  obtain ⟨p0, p1, p2, u0, u1, u2⟩ := HCELL.out _ HE5.out
  go_wp2_with fail
  refine (HG1.out w5 (HRA.out _ HE5.out)).mono ?_
  rintro e w6 ⟨v6, lo6, hi6, rfl, hg6, hb⟩
  obtain ⟨r6, s6, rfl, hd6⟩ := hg6.rd
  have HE6 := hid (HE5.out.trans (hb.mono HE5.out.size))
  have HG6 := hid hd6
  clear hb hg6 hd6 HE5 HG1 p0 p1 p2 u0 u1 u2
  obtain ⟨p0, p1, p2, u0, u1, u2⟩ := HCELL.out _ HE6.out
  go_wp2_with fail
  refine (HG2.out _ _ w6 (HRX.out _ HE6.out)).mono ?_
  rintro e w7 ⟨v7, lo7, hi7, rfl, hg7, hb⟩
  obtain ⟨r7, s7, rfl, hd7⟩ := hg7.rd
  have HE7 := hid (HE6.out.trans (hb.mono HE6.out.size))
  have HG67 := hid (HG6.out.stays hb)
  have HG7 := hid hd7
  clear hb hg7 hd7 HE6 HG6 HG2 p0 p1 p2 u0 u1 u2
  obtain ⟨p0, p1, p2, u0, u1, u2⟩ := HCELL.out _ HE7.out
  go_wp2_with fail
  refine (HN1.out w7 (HRA.out _ HE7.out)).mono ?_
  rintro e w8 ⟨r8, s8, rfl, hn8, hb⟩
  have HE8 := hid (HE7.out.trans (hb.mono HE7.out.size))
  have HG68 := hid (HG67.out.stays hb)
  have HG78 := hid (HG7.out.stays hb)
  have HN8 := hid hn8
  clear hb hn8 HE7 HG67 HG7 HN1 p0 p1 p2 u0 u1 u2
  obtain ⟨p0, p1, p2, u0, u1, u2⟩ := HCELL.out _ HE8.out
  go_wp2_with fail
  refine (HN2.out _ _ w8 HX1.out HX2.out (HRX.out _ HE8.out)).mono ?_
  rintro e w9 ⟨r9, s9, rfl, hn9, hb⟩
  have HE9 := hid (HE8.out.trans (hb.mono HE8.out.size))
  have HB9 := hid (HB3.out.trans (HE9.out.mono HB3.out.size))
  have HNA := hid (fun W (h : Hid (Below w9.heap.size w9 W)) => (HGE.out r6 r7 s6 s7 W ((HG68.out.stays hb).stays h.out) ((HG78.out.stays hb).stays h.out)).mono (R' := fun e w' => e = .returned (.bool true) ∧ Hid (Below w9.heap.size w9 w')) (fun e w' hq => ⟨hq.1, by obtain ⟨_, q, rfl⟩ := hq; exact hid (below_drewN h.out _)⟩))
  have HNB := hid (fun W (h : Hid (Below w9.heap.size w9 W)) => (HNE.out r8 r9 s8 s9 W ((HN8.out.stays' hb).stays' h.out) (hn9.stays' h.out)).mono (R' := fun e w' => e = .returned (.bool true) ∧ Hid (Below w9.heap.size w9 w')) (fun e w' hq => ⟨hq.1, by obtain ⟨_, q, rfl⟩ := hq; exact hid (below_drewN h.out _)⟩))
  have HCL := hid (fun W (h : Below w9.heap.size w9 W) => HCELL.out W (HE9.out.trans (h.mono HE9.out.size)))
  have H1 := hid (fun W (h : Hid (Below w9.heap.size w9 W)) => (HC1.out W (HRA.out _ (HE9.out.trans (h.out.mono HE9.out.size)))).mono (R' := fun e w' => e = .returned (.int .i64 ce) ∧ Hid (Below w9.heap.size w9 w')) (fun e w' hq => ⟨hq.1, hid (h.out.trans (hq.2.mono h.out.size))⟩))
  have H2 := hid (fun W (h : Hid (Below w9.heap.size w9 W)) => (HC2.out a1 c1 W (HRX.out _ (HE9.out.trans (h.out.mono HE9.out.size)))).mono (R' := fun e w' => e = .returned (.int .i64 ce) ∧ Hid (Below w9.heap.size w9 w')) (fun e w' hq => ⟨hq.1, hid (h.out.trans (hq.2.mono h.out.size))⟩))
  have H3 := hid (fun W (h : Hid (Below w9.heap.size w9 W)) => (works_gives W).mono (R' := fun e w' => e = .returned (.bool true) ∧ Hid (Below w9.heap.size w9 w')) (fun e w' hq => ⟨hq.1, hid (h.out.trans (hq.2.mono h.out.size))⟩))
  clear hb hn9 p0 p1 p2 u0 u1 u2 HE8 HG68 HG78 HN8 HN2 HC1 HC2 HRA HRX HB3 HGE HNE HX1 HX2
  have hd : Hid (Below w9.heap.size w9 w9.drew) := hid (Below.refl _ _).drew
  obtain ⟨p0, p1, p2, u0, u1, u2⟩ := HCL.out _ hd.out
  go_wp2
  go_region_held3 (fun W => W.cell? ⟨w.heap.size, 0, none⟩ = some (.int .i64 m) ∧ W.cell? ⟨w.heap.size, 1, none⟩ = some (.int .i64 n) ∧ W.cell? ⟨w.heap.size, 2, none⟩ = some (.slice a bs.length c) ∧ W.cell? ⟨g, 0, none⟩ = some (.int .i64 m) ∧ W.cell? ⟨g, 1, none⟩ = some (.int .i64 n) ∧ W.cell? ⟨g, 2, none⟩ = some (.slice a1 bs.length c1)) (first | exact HCL.out _ (Hid.out (by assumption)) | go_keep) (first | (go_at_call 23; (with_reducible refine (HNA.out _ (by assumption)).mono ?_); rintro e w10 ⟨rfl, hb10⟩) | (go_at_call 24; (with_reducible refine (HNB.out _ (by assumption)).mono ?_); rintro e w11 ⟨rfl, hb11⟩) | (go_at_call 25; (with_reducible refine (H1.out _ (by assumption)).mono ?_); rintro e w12 ⟨rfl, hb12⟩) | (go_at_call 26; (with_reducible refine (H2.out _ (by assumption)).mono ?_); rintro e w13 ⟨rfl, hb13⟩) | (go_at_call 15; (with_reducible refine (H3.out _ (by assumption)).mono ?_); rintro e w14 ⟨rfl, hb14⟩))
  all_goals
    go_wp2
    go_ret
    exact ⟨rfl, HB9.out.trans (Below.mono (Hid.out (by assumption)) HB9.out.size)⟩
end Go.Proofs.Ytfkfejonlfcgoaa
