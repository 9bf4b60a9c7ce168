/- SerialRenamed: for every plate, order and digits: a renamed table, 0 remaining 0, has as many blind spots and twins; its codes remain right. No condition. -/
import Derived.Test.YtlpdlnefgjmgmaaOpenU
import Derived.Test.YtlpdlnefgjmgmaaRenMem
import Derived.Test.YtlpdlnefgjmgmaaWorks
import Derived.ShutString
import Derived.ChangeOld
import Derived.Below
import Derived.BigQuiet
import Derived.StillTailTactics
import Derived.Deep.QuietTactic
import Derived.Deep.DeepCutAuto
namespace Go.Proofs.Ytlpdlnefgjmgmaa
open Go.ChangeShapes Go.WideShapes Go.ChangeAt Go.RowKit

theorem src_cells0 {W : World} {b off : Nat} {xs : List Int} (h : RdI W (some ⟨b, off, none⟩) xs) :
    ∀ j u, (xs.map (Value.int .i64))[j]? = some u → W.cell? ((⟨b, off, none⟩ : Addr).add j) = some u := by
  intro j u hj
  have hjn : j < xs.length := by
    have := (List.getElem?_eq_some_iff.1 hj).1
    simpa using this
  obtain ⟨b', off', he, hc⟩ := h j hjn
  simp only [Option.some.injEq, Addr.mk.injEq, and_true] at he
  obtain ⟨rfl, rfl⟩ := he
  rw [Addr.add_lit, hc]
  simpa [hjn] using hj

theorem dis_kept {u v : Value} (h : ∀ q, v.ownBlock = some q → u.ownBlock ≠ some q) : u.ownBlock = none ∨ u.ownBlock ≠ v.ownBlock := by
  cases hu : u.ownBlock with
  | none => exact Or.inl rfl
  | some q => exact Or.inr (fun e => h q e.symm hu)

theorem dis_symm {u v : Value} (h : ∀ q, v.ownBlock = some q → u.ownBlock ≠ some q) : ∀ q, u.ownBlock = some q → v.ownBlock ≠ some q := fun q hu hv => h q hv hu

theorem dis_new {u v v' : Value} {H H' : Nat} (h : ∀ q, v.ownBlock = some q → u.ownBlock ≠ some q) (hu : ∀ q, u.ownBlock = some q → q < H) (ha : v'.ownBlock = v.ownBlock ∨ v'.ownBlock = some H') (hH : H ≤ H') :
    ∀ q, v'.ownBlock = some q → u.ownBlock ≠ some q := fun q hv hq => by
  rcases ha with e | e
  · exact h q (by rw [← e, hv]) hq
  · rw [e] at hv
    have := hu q hq
    simp at hv
    omega

theorem fv_same {w wr wj : World} {B N n : Nat} {V : Nat → Nat → Nat} (h : FV w wr B N n V) (hs : Same wj wr) : FV w wj B N n V :=
  ⟨below_same h.below hs, h.top.of_block (by rw [hs.1]), fun j hj => (h.row j hj).of_block (by rw [hs.1])⟩

/-- The digits of a code by numbers. -/
def P.fdr (n : Nat) (ds : List Nat) : List Int := (ds.take 9).map fun x : Nat => ((x % n : Nat) : Int)

theorem P.fdr_length (n : Nat) (ds : List Nat) : (P.fdr n ds).length = min 9 ds.length := by simp [P.fdr]

theorem P.fdr_take {n : Nat} {ds : List Nat} {j : Nat} (h : j < ds.length) (h9 : j < 9) : (P.fdr n ds).take (j + 1) = (P.fdr n ds).take j ++ [((ds[j] % n : Nat) : Int)] := by
  rw [List.take_succ_eq_append_getElem (by rw [P.fdr_length]; omega)]
  simp [P.fdr]

theorem P.fdr_dg (n : Nat) (ds : List Nat) (hn : 0 < n) : Dg n (P.fdr n ds) := Dg.of_mem fun x hx => by
  unfold P.fdr at hx
  obtain ⟨y, _, rfl⟩ := List.mem_map.1 hx
  have := Nat.mod_lt y hn
  omega

theorem P.ren_snoc (p : Nat → Nat) (l : List Int) (y : Nat) : P.ren p (l ++ [(y : Int)]) = P.ren p l ++ [(p y : Int)] := by
  unfold P.ren
  rw [List.map_append]
  simp

set_option maxHeartbeats 9000000 in
set_option maxRecDepth 100000 in
theorem serialRenamed_walk (w : World) (f : Nat → Nat) (hf : ∀ k, f k < 256) (f1 : Nat → Nat) (hf1 : ∀ k, f1 k < 256) (ad : Option Addr) (cd : Nat) (ds : List Nat) (hc : ds.length ≤ cd) (hcd : cd ≤ maxLen) (hD : RdU w ad ds) (hdw : ∀ x ∈ ds, x < 256) :
    Calls Try.prog 7 #[plate f, arr5 f1, .slice ad ds.length cd] w fun e w' => e = .returned (.bool true) ∧ Below w.heap.size w w' := by
  unfold maxLen at hcd
  unfold arr5
  have HM := hid (fun w' => made_any f w' hf)
  have HAR := hid (fun m w' hm => arranged_any m f1 w' hm hf1)
  clear hf hf1
  obtain ⟨i0, hi, hz0, hz1, hz2⟩ := info_parts (show (Try.prog.info? 3).map (fun i => (i.zero, i.size, i.bytes)) = some (some (.int .i64 0), 1, 8) by kernel_rfl)
  go_enter Try.func7, Try.ntmps7
  go_wp2_with fail
  have hsz : ((w.alloc (.cells #[.int .u8 (f 0), .int .u8 (f 1), .int .u8 (f 2), .int .u8 (f 3), .int .u8 (f 4), .int .u8 (f 5), .int .u8 (f 6), .int .u8 (f 7), .int .u8 (f 8), .int .u8 (f 9), .int .u8 (f 10), .int .u8 (f 11), .int .u8 (f 12), .int .u8 (f 13), .int .u8 (f 14), .int .u8 (f 15), .int .u8 (f 16)] 24)).alloc (.cells #[.int .u8 (f1 0), .int .u8 (f1 1), .int .u8 (f1 2), .int .u8 (f1 3), .int .u8 (f1 4)] 22)).heap.size = w.heap.size + 2 := by simp
  have HB0 := hid (((Below.refl w.heap.size w).alloc (Nat.le_refl _) (.cells #[.int .u8 (f 0), .int .u8 (f 1), .int .u8 (f 2), .int .u8 (f 3), .int .u8 (f 4), .int .u8 (f 5), .int .u8 (f 6), .int .u8 (f 7), .int .u8 (f 8), .int .u8 (f 9), .int .u8 (f 10), .int .u8 (f 11), .int .u8 (f 12), .int .u8 (f 13), .int .u8 (f 14), .int .u8 (f 15), .int .u8 (f 16)] 24)).alloc (by simp) (.cells #[.int .u8 (f1 0), .int .u8 (f1 1), .int .u8 (f1 2), .int .u8 (f1 3), .int .u8 (f1 4)] 22))
  have hbx : ∀ k, k < 5 → ((w.alloc (.cells #[.int .u8 (f 0), .int .u8 (f 1), .int .u8 (f 2), .int .u8 (f 3), .int .u8 (f 4), .int .u8 (f 5), .int .u8 (f 6), .int .u8 (f 7), .int .u8 (f 8), .int .u8 (f 9), .int .u8 (f 10), .int .u8 (f 11), .int .u8 (f 12), .int .u8 (f 13), .int .u8 (f 14), .int .u8 (f 15), .int .u8 (f 16)] 24)).alloc (.cells #[.int .u8 (f1 0), .int .u8 (f1 1), .int .u8 (f1 2), .int .u8 (f1 3), .int .u8 (f1 4)] 22)).cell? ⟨w.heap.size + 1, k, none⟩ = some (.int .u8 (f1 k)) := by
    intro k hk
    rw [World.cell?_alloc_at _ _ _ _ (by simp)]
    match k, hk with
    | 0, _ => rfl
    | 1, _ => rfl
    | 2, _ => rfl
    | 3, _ => rfl
    | 4, _ => rfl
  have HBX := hid hbx
  clear hbx
  generalize (w.alloc (.cells #[.int .u8 (f 0), .int .u8 (f 1), .int .u8 (f 2), .int .u8 (f 3), .int .u8 (f 4), .int .u8 (f 5), .int .u8 (f 6), .int .u8 (f 7), .int .u8 (f 8), .int .u8 (f 9), .int .u8 (f 10), .int .u8 (f 11), .int .u8 (f 12), .int .u8 (f 13), .int .u8 (f 14), .int .u8 (f 15), .int .u8 (f 16)] 24)).alloc (.cells #[.int .u8 (f1 0), .int .u8 (f1 1), .int .u8 (f1 2), .int .u8 (f1 3), .int .u8 (f1 4)] 22) = wA at *
  refine (HM.out _).mono ?_
  rintro e w1 ⟨a, c, T, rfl, ht, h5, hT, hb⟩
  have HDU := hid ((hD.stays HB0.out).stays hb)
  have HB1 := hid (HB0.out.trans (hb.mono HB0.out.size))
  have HT := hid hT
  have HTA := hid ht
  have hlo := ht.lo
  have hhi := ht.hi
  have x0 : (w1.alloc (.cells #[.int .i64 0] 3)).cell? ⟨w.heap.size + 1, 0, none⟩ = some (.int .u8 (f1 0)) := Lib.cell?_alloc_some _ (cell_stays hb (Nat.le_refl _) (HBX.out 0 (by omega)))
  have x1 : (w1.alloc (.cells #[.int .i64 0] 3)).cell? ⟨w.heap.size + 1, 1, none⟩ = some (.int .u8 (f1 1)) := Lib.cell?_alloc_some _ (cell_stays hb (Nat.le_refl _) (HBX.out 1 (by omega)))
  have x2 : (w1.alloc (.cells #[.int .i64 0] 3)).cell? ⟨w.heap.size + 1, 2, none⟩ = some (.int .u8 (f1 2)) := Lib.cell?_alloc_some _ (cell_stays hb (Nat.le_refl _) (HBX.out 2 (by omega)))
  have x3 : (w1.alloc (.cells #[.int .i64 0] 3)).cell? ⟨w.heap.size + 1, 3, none⟩ = some (.int .u8 (f1 3)) := Lib.cell?_alloc_some _ (cell_stays hb (Nat.le_refl _) (HBX.out 3 (by omega)))
  have x4 : (w1.alloc (.cells #[.int .i64 0] 3)).cell? ⟨w.heap.size + 1, 4, none⟩ = some (.int .u8 (f1 4)) := Lib.cell?_alloc_some _ (cell_stays hb (Nat.le_refl _) (HBX.out 4 (by omega)))
  have HDG := hid (P.fdr_dg T.length ds (by omega))
  have HLE := hid (P.fdr_length T.length ds)
  have HTK := hid (fun j (h1 : j < ds.length) (h2 : j < 9) => P.fdr_take (n := T.length) h1 h2)
  generalize hDe : P.fdr T.length ds = D at *
  clear hDe
  have hL9 : D.length ≤ 9 := by have := HLE.out; omega
  obtain ⟨m, hm⟩ : ∃ m, T.length = m + 1 := ⟨T.length - 1, by omega⟩
  have hm1 : (T.length : Int) - 1 = (m : Int) := by omega
  have hm4 : m ≤ 4 := by omega
  have HMM := hid hm
  clear hm
  clear hb hT HB0 HM ht hD HBX hsz
  generalize plate f = pv
  generalize (Value.agg #[.int .u8 (f 0), .int .u8 (f 1), .int .u8 (f 2), .int .u8 (f 3), .int .u8 (f 4), .int .u8 (f 5), .int .u8 (f 6), .int .u8 (f 7), .int .u8 (f 8), .int .u8 (f 9), .int .u8 (f 10), .int .u8 (f 11), .int .u8 (f 12), .int .u8 (f 13), .int .u8 (f 14), .int .u8 (f 15), .int .u8 (f 16)]) = pv2
  generalize (Value.agg #[.int .u8 (f1 0), .int .u8 (f1 1), .int .u8 (f1 2), .int .u8 (f1 3), .int .u8 (f1 4)]) = av
  go_wp2_with fail
  have HOL := hid (World.ownsRow_lit (base := w1.heap.size) (e := 3) (size := 1) w1 #[.int .i64 0] 1 (Nat.le_refl _) (by unfold maxLen; omega) (by simp))
  have HW1 := hid ((Below.refl w1.heap.size w1).alloc (Nat.le_refl _) (.cells #[.int .i64 0] 3))
  refine (HAR.out m _ (by omega)).mono ?_
  rintro e w2 ⟨r, cr, xs, rfl, hperm, hr, hb⟩
  have HO := hid (ownsRow_stays HOL.out hb)
  have HB2 := hid (HW1.out.trans (hb.mono HW1.out.size))
  have hxl : xs.length = m := (perm_facts hperm).1
  have HPM := hid hperm
  obtain ⟨b, off, rfl, _⟩ := hr 0 (by omega)
  have HR := hid hr
  clear hr hb HOL HW1 HAR hperm x0 x1 x2 x3 x4
  go_wp2_with (at_builtin; refine wpList_append_own _ rfl _ _ 35 rfl w1.heap.size 3 i0 (.int .i64 0) 1 8 Try.underlying35 hi hz0 hz1 hz2 rfl (by decide) _ _ _ rfl HO.out ⟨b, off, none⟩ m cr (xs.map (Value.int .i64)) rfl ?qc1 ?qc2 ?qc3 ?qc4 ?qc5 ?qc6 ?_)
  case qc1 => rw [List.length_map, hxl]; omega
  case qc2 => exact src_cells0 HR.out
  case qc3 => intro u hu; obtain ⟨x, _, rfl⟩ := List.mem_map.1 hu; rfl
  case qc4 => unfold maxLen; omega
  case qc5 => omega
  case qc6 => exact HB2.out.size
  intro v' w3 hown hgrow hnil
  obtain ⟨g, cap, rfl, ho⟩ := OwnI.of_row (xs := 0 :: xs) (n := 1 + m) hown (by simp)
  have hg1 : w1.heap.size ≤ g := ho.base.1
  have HB3 := hid (HB2.out.grown hgrow HB2.out.size (fun q hq => (World.ownsRow.lt HO.out q hq).1))
  have e1 : (0 : Int) :: xs = P.toList xs T.length 1 := by rw [HMM.out, toList_start HPM.out]
  rw [e1] at ho
  have HO3 := hid ho
  rw [e1, P.toList_length]
  clear hown hgrow hnil HO HR HB2 ho e1
  go_wp2_with fail
  go_loopw [10] (fun i wr => ∃ j : Nat, 1 ≤ j ∧ j ≤ T.length ∧ i = .int .i64 j ∧ OwnI wr w1.heap.size g cap (P.toList xs T.length j) ∧ Below w1.heap.size w1 wr) (fun i _ => T.length - (intOf i).toNat)
  case atStart => exact ⟨1, Nat.le_refl _, by omega, rfl, HO3.out, HB3.out⟩
  case round =>
    obtain ⟨j, hj1, hj, rfl, hown, hb⟩ := hrel
    have HO := hid hown
    have HBR := hid hb
    clear hown hb HO3 HB3
    by_cases hjl : j < T.length
    · obtain ⟨b', off', he, hcell⟩ := HO.out.rd j (by rw [P.toList_length]; exact hjl)
      simp only [Option.some.injEq, Addr.mk.injEq, and_true] at he
      obtain ⟨rfl, rfl⟩ := he
      have hv : (P.toList xs T.length j)[j]'(by rw [P.toList_length]; exact hjl) = (P.nat xs (j - 1) : Int) := by
        have := toList_at xs (j := j) hjl
        rw [List.getElem?_eq_getElem (by rw [P.toList_length]; exact hjl), if_neg (by omega), if_neg (Nat.lt_irrefl _)] at this
        simpa using this
      rw [Nat.zero_add, hv] at hcell
      have hfr := World.ownsRow.frozenAt HO.out j
      have hy : P.nat xs (j - 1) < m := (perm_facts HPM.out).2.1 (j - 1) (by have := HMM.out; omega)
      have HST := hid (toList_step xs hjl hj1)
      have HBS := hid (HBR.out.setCell (p := ⟨g, j, none⟩) hg1 (.int .i64 ((P.nat xs (j - 1) : Int) + 1)))
      have HOS := hid (HO.out.set j ((P.nat xs (j - 1) : Int) + 1))
      clear hv
      generalize P.nat xs (j - 1) = y at *
      go_wp2
      go_roundw
      case rel => exact ⟨j + 1, by omega, by omega, by go_num, by rw [← HST.out]; exact HOS.out, HBS.out⟩
      case measure => simp [intOf]; omega
    · have hje : j = T.length := by omega
      subst hje
      have HBJ : Hid (Bij T.length (P.to xs)) := hid (by rw [HMM.out]; exact to_bij HPM.out)
      have HP0 : Hid (P.to xs 0 = 0) := hid rfl
      have HP : Hid (∀ k, k < T.length → wr.cell? ⟨g, k, none⟩ = some (.int .i64 (P.to xs k : Nat))) := hid (fun k hk => by
        obtain ⟨b', off', he, hcell⟩ := HO.out.rd k (by rw [P.toList_length]; exact hk)
        simp only [Option.some.injEq, Addr.mk.injEq, and_true] at he
        obtain ⟨rfl, rfl⟩ := he
        have := toList_done xs hk
        rw [List.getElem?_eq_getElem (by rw [P.toList_length]; exact hk)] at this
        rw [Nat.zero_add] at hcell
        rw [hcell, Option.some.inj this])
      have HTr := hid (HT.out.stays HBR.out)
      have HDr := hid (HDU.out.stays HBR.out)
      have HBr := hid (HB1.out.trans (HBR.out.mono HB1.out.size))
      have hmk1 := run_make_row' (P := Try.prog) 25 35 (.slice none 0 0) 24 Try.underlying25 (by kernel_rfl) rfl .i64 .i64 T.length (by omega) (by omega)
      have hmk2 := run_make_row' (P := Try.prog) 35 3 (.int .i64 0) 8 Try.underlying35 (by kernel_rfl) rfl .i64 .i64 T.length (by omega) (by omega)
      generalize P.to xs = p at *
      clear HO HPM HT HDU HB1 HBR hjl hj hj1 hg1
      obtain ⟨w4, rfl⟩ : ∃ w4 : World, w4 = wr := ⟨_, rfl⟩
      go_wp2_with fail
      go_loopw [55] (fun i wr => ∃ s : Nat, s ≤ T.length ∧ i = .int .i64 s ∧ RT w4 wr w4.heap.size w4.heap.size T.length s) (fun i _ => T.length - (intOf i).toNat)
      case atStart => exact ⟨0, Nat.zero_le _, rfl, rt_start (Below.refl _ _) (Nat.le_refl _)⟩
      case round =>
        obtain ⟨s, hs, rfl, hR⟩ := hrel
        have HRT := hid hR
        by_cases hsl : s < T.length
        · have hst1 : ∀ o, (wr.alloc o).cell? ⟨w4.heap.size, s, none⟩ = some (.slice none 0 0) := fun o => by
            rw [(hR.top.alloc o).cell hsl, if_neg (Nat.lt_irrefl _)]
          have hst2 : ∀ o, (wr.alloc o).frozen? ⟨w4.heap.size, s, none⟩ = false := fun o => (hR.top.alloc o).frozen s
          have HN := hid (rt_step hR (Nat.le_refl _))
          clear hR
          go_wp2
          go_roundw
          case rel => exact ⟨s + 1, by omega, by go_num, HN.out⟩
          case measure => simp [intOf]; omega
        · have hse : s = T.length := by omega
          subst hse
          have HFV := hid (fv_start hR)
          clear hR HRT hmk1 hmk2
          go_wp2_with fail
          go_loopw [66] (fun x wr => ∃ (s : Nat) (V : Nat → Nat → Nat), s ≤ T.length ∧ x = .int .i64 s ∧ FV w4 wr w4.heap.size w4.heap.size T.length V ∧ Filled T.length p (P.at T) V s 0) (fun x _ => T.length - (intOf x).toNat)
          case atStart => exact ⟨0, _, Nat.zero_le _, rfl, HFV.out, fun a b _ _ h => by omega⟩
          case round => as_aux_lemma =>
            clear HFV
            obtain ⟨s, V, hs, rfl, hfv, hfil⟩ := hrel
            have HFV := hid hfv
            have HFI := hid hfil
            clear hfv hfil
            by_cases hsl : s < T.length
            · go_wp2
              obtain ⟨wo, rfl⟩ : ∃ wo : World, wo = wr := ⟨_, rfl⟩
              go_loopw [71] (fun x wr => ∃ (d : Nat) (V : Nat → Nat → Nat), d ≤ T.length ∧ x = .int .i64 d ∧ FV w4 wr w4.heap.size w4.heap.size T.length V ∧ Filled T.length p (P.at T) V s d) (fun x _ => T.length - (intOf x).toNat)
              case atStart => exact ⟨0, _, Nat.zero_le _, rfl, HFV.out, HFI.out⟩
              case round => as_aux_lemma =>
                clear HFV HFI
                obtain ⟨d, V, hd, rfl, hfv, hfil⟩ := hrel
                have HFV := hid hfv
                have HFI := hid hfil
                clear hfv hfil
                by_cases hdl : d < T.length
                · have HST := hid (filled_step HBJ.out hsl hdl HFI.out)
                  have hps := HBJ.out.lt s hsl
                  have hpd := HBJ.out.lt d hdl
                  have hz := HTA.out.sq.at_lt hsl hdl
                  have hpz := HBJ.out.lt _ hz
                  have hbr := HFV.out.below
                  obtain ⟨b0, o0, b1, o1, c1, rfl, m1, k1⟩ := (HTr.out.stays hbr).row HTA.out.sq hsl
                  have m2 := k1 d hdl
                  have m3 := cell_stays hbr (Nat.le_refl _) (HP.out s hsl)
                  have m4 := cell_stays hbr (Nat.le_refl _) (HP.out d hdl)
                  have m5 := cell_stays hbr (Nat.le_refl _) (HP.out _ hz)
                  have m6 : wr.cell? ⟨w4.heap.size, p s, none⟩ = some (.slice (some ⟨w4.heap.size + 1 + p s, 0, none⟩) T.length T.length) := HFV.out.top.cell hps
                  have m7 : wr.cell? ⟨w4.heap.size + 1 + p s, p d, none⟩ = some (.int .i64 (V (p s) (p d) : Nat)) := (HFV.out.row (p s) hps).cell hpd
                  have m8 : wr.frozen? ⟨w4.heap.size + 1 + p s, p d, none⟩ = false := (HFV.out.row (p s) hps).frozen (p d)
                  clear hbr k1
                  generalize V (p s) (p d) = old at *
                  generalize P.at T s d = z at *
                  generalize p s = ps at *
                  generalize p d = pd at *
                  generalize p z = pz at *
                  have n1 : ({ heap := wr.heap, tape := wr.tape, drawn := wr.drawn + 1, os := wr.os, output := wr.output } : World).cell? ⟨b0, o0 + s, none⟩ = _ := m1
                  have n2 : ({ heap := wr.heap, tape := wr.tape, drawn := wr.drawn + 1, os := wr.os, output := wr.output } : World).cell? ⟨b1, o1 + d, none⟩ = _ := m2
                  have n3 : ({ heap := wr.heap, tape := wr.tape, drawn := wr.drawn + 1, os := wr.os, output := wr.output } : World).cell? ⟨g, s, none⟩ = _ := m3
                  have n4 : ({ heap := wr.heap, tape := wr.tape, drawn := wr.drawn + 1, os := wr.os, output := wr.output } : World).cell? ⟨g, d, none⟩ = _ := m4
                  have n5 : ({ heap := wr.heap, tape := wr.tape, drawn := wr.drawn + 1, os := wr.os, output := wr.output } : World).cell? ⟨g, z, none⟩ = _ := m5
                  have n6 : ({ heap := wr.heap, tape := wr.tape, drawn := wr.drawn + 1, os := wr.os, output := wr.output } : World).cell? ⟨w4.heap.size, ps, none⟩ = _ := m6
                  go_wp2
                  go_still_tail 22, (by kernel_rfl)
                  have HFZ := hid (fv_same HFV.out (show Same wr.drew wr from ⟨rfl, rfl, rfl, rfl⟩))
                  have s1 : wr.drew.cell? ⟨w4.heap.size + 1 + ps, pd, none⟩ = some (.int .i64 (old : Nat)) := m7
                  have s2 : wr.drew.frozen? ⟨w4.heap.size + 1 + ps, pd, none⟩ = false := m8
                  change wpList _ _ _ _ _ wr.drew
                  clear n1 n2 n3 n4 n5 n6 m1 m2 m3 m4 m5 m6 m7 m8 HFV HFI
                  generalize wr.drew = wz at *
                  have HFW := hid (fv_step HFZ.out (Nat.le_refl _) (r := ps) (q := pd) (v := pz) ⟨rfl, rfl, rfl, rfl⟩)
                  go_wp2
                  go_roundw
                  case rel => exact ⟨d + 1, _, by omega, by go_num, HFW.out, HST.out⟩
                  case measure => simp [intOf]; omega
                · have hde : d = T.length := by omega
                  subst hde
                  have HF2 := hid (filled_row HFI.out)
                  go_wp2
                  go_roundw
                  case rel => exact ⟨s + 1, V, by omega, by go_num, HFV.out, HF2.out⟩
                  case measure => simp [intOf]; omega
            · have hse : s = T.length := by omega
              subst hse
              obtain ⟨E, hren, hE⟩ := ren_made HTA.out HBJ.out HP0.out
              have hO := fv_rd HFV.out (filled_all HBJ.out HFI.out hE)
              have hbr := HFV.out.below
              have HREN := hid hren
              have hOl : (P.tab T.length E).length = T.length := hren.len
              generalize P.tab T.length E = O at *
              have HO5 := hid hO
              have HT5 := hid (HTr.out.stays hbr)
              have HD5 := hid (HDr.out.stays hbr)
              have HP5 : Hid (∀ k, k < T.length → wr.cell? ⟨g, k, none⟩ = some (.int .i64 (p k : Nat))) := hid (fun k hk => cell_stays hbr (Nat.le_refl _) (HP.out k hk))
              have HB5 := hid (HBr.out.trans (hbr.mono HBr.out.size))
              have HOL := hid hOl
              clear hren hE hO hbr hOl HFV HFI HTr HDr HBr HP HP0 hs hsl
              generalize w4.heap.size = N at *
              obtain ⟨w5, rfl⟩ : ∃ w5 : World, w5 = wr := ⟨_, rfl⟩
              go_wp2_with fail
              go_loopw [15, 16, 17] (fun v u i wr => ∃ j : Nat, j ≤ D.length ∧ i = .int .i64 j ∧ wr.ownsRow w5.heap.size 3 1 v j ((D.take j).map (Value.int .i64)) ∧ wr.ownsRow w5.heap.size 3 1 u j ((P.ren p (D.take j)).map (Value.int .i64)) ∧ (∀ q, v.ownBlock = some q → u.ownBlock ≠ some q) ∧ Below w5.heap.size w5 wr) (fun _ _ i _ => 9 - (intOf i).toNat)
              case atStart => exact ⟨0, Nat.zero_le _, rfl, World.ownsRow_nil _ _ _ _, World.ownsRow_nil _ _ _ _, fun q h => by simp [Value.ownBlock] at h, Below.refl _ _⟩
              case round => as_aux_lemma =>
                obtain ⟨j, hj, rfl, hown, hown2, hdis, hb⟩ := hrel
                have HO1 := hid hown
                have HO2 := hid hown2
                have HDI := hid hdis
                have HBR := hid hb
                clear hown hown2 hdis hb
                go_upto_region 25 with fail
                go_cut [105] (fun s105 wx => s105 = .bool (decide (j < D.length)) ∧ wr = wx)
                case first => as_aux_lemma =>
                  by_cases h1 : j < ds.length
                  · by_cases h2 : j < 9
                    · have h3 : decide (j < D.length) = true := by have := HLE.out; simp; omega
                      go_wp2
                      go_meet
                      exact ⟨by rw [h3]; simp; omega, rfl⟩
                    · have h3 : decide (j < D.length) = false := by have := HLE.out; simp; omega
                      have h4 : decide (j < 9) = false := by simpa using h2
                      go_wp2
                      go_meet
                      exact ⟨by rw [h3]; simp; omega, rfl⟩
                  · have h3 : decide (j < D.length) = false := by have := HLE.out; simp; omega
                    have h4 : decide ((j : Int) < (ds.length : Int)) = false := by simp; omega
                    go_wp2
                    go_meet
                    exact ⟨by rw [h3], rfl⟩
                case rest => as_aux_lemma =>
                  obtain ⟨rfl, rfl⟩ := hcut
                  by_cases hjl : j < D.length
                  · rw [show decide (j < D.length) = true from by simpa using hjl]
                    have h1 : j < ds.length := by have := HLE.out; omega
                    have h2 : j < 9 := by omega
                    obtain ⟨b, off, rfl, hcell⟩ := HD5.out j h1
                    have hcr := cell_stays HBR.out (Nat.le_refl _) hcell
                    have hs := HTK.out j h1 h2
                    have hxb := hdw _ (List.getElem_mem h1)
                    generalize ds[j] = x at *
                    have hx1 : (x : Int).tmod (T.length : Int) = ((x % T.length : Nat) : Int) := by rw [Int.tmod_eq_emod_of_nonneg (by omega)]; simp
                    have hx2 : (x : Int) % (T.length : Int) = ((x % T.length : Nat) : Int) := by simp
                    have hne : ¬ (T.length : Int) = 0 := by omega
                    have hyl : x % T.length < T.length := Nat.mod_lt _ (by omega)
                    generalize x % T.length = y at *
                    have hl1 : (D.take (j + 1)).length = j + 1 := by rw [List.length_take]; omega
                    have hyj : (D.take (j + 1))[j]'(by rw [hl1]; omega) = (y : Int) := by
                      have e : (D.take (j + 1))[j]? = some (y : Int) := by rw [hs, List.getElem?_append_right (by rw [List.length_take]; omega), List.length_take, show j - min j D.length = 0 from by omega]; rfl
                      rw [List.getElem?_eq_getElem (by rw [hl1]; omega)] at e
                      exact Option.some.inj e
                    have HS := hid hs
                    have HYJ := hid hyj
                    have HL1 := hid hl1
                    clear hcell hjl HTK hs hyj
                    go_wp2_with (at_builtin; refine wpList_append_own_at _ rfl _ _ 35 rfl w5.heap.size 3 i0 (.int .i64 0) 1 8 Try.underlying35 hi hz0 hz1 hz2 rfl (by decide) _ _ _ rfl (HO1.out.alloc _) ⟨wr.heap.size, 0, none⟩ 1 1 [.int .i64 (y : Nat)] rfl rfl ?c1 ?c2 ?c3 ?c4 ?c5 ?_)
                    case c1 =>
                      intro j u hj
                      match j, hj with
                      | 0, hj => simp at hj; subst hj; simp [Addr.add]
                    case c2 => intro u hu; simp at hu; subst hu; rfl
                    case c3 => unfold maxLen; omega
                    case c4 => omega
                    case c5 => have := HBR.out.size; simp; omega
                    intro v1 w6 hown' hgrow _ hat
                    have hB6 := (HBR.out.alloc HBR.out.size (.cells #[.int .i64 (y : Nat)] 3)).grown hgrow (by have := HBR.out.size; simp; omega) (fun q hq => (World.ownsRow.lt HO1.out q hq).1)
                    have hO1 : w6.ownsRow w5.heap.size 3 1 v1 (j + 1) ((D.take (j + 1)).map (Value.int .i64)) := by rw [HS.out]; simpa using hown'
                    have hO2 := (HO2.out.alloc (.cells #[.int .i64 (y : Nat)] 3)).kept hgrow (dis_kept HDI.out)
                    have hD6 := dis_new HDI.out (fun q hq => (World.ownsRow.lt HO2.out q hq).2) (H' := wr.heap.size + 1) hat (by omega)
                    obtain ⟨r1, cr1, rfl, hr1⟩ := RdI.of_row hO1
                    obtain ⟨b2, off2, rfl, hcj⟩ := hr1 j (by rw [HL1.out]; omega)
                    rw [HYJ.out] at hcj
                    have hpy := cell_stays hB6 (Nat.le_refl _) (HP5.out y hyl)
                    rw [HL1.out] at hO1 hD6
                    rw [HL1.out]
                    have HB6 := hid hB6
                    have HO1b := hid hO1
                    have HO2b := hid hO2
                    have HD6 := hid hD6
                    clear hown' hgrow hat hB6 hO1 hO2 hD6 hr1 HO1 HO2 HDI HBR hcr hx1 hx2
                    clear HYJ hl1
                    generalize hpye : p y = py at *
                    have HPY := hid hpye
                    clear hpye
                    go_wp2_with (at_builtin; refine wpList_append_own_at _ rfl _ _ 35 rfl w5.heap.size 3 i0 (.int .i64 0) 1 8 Try.underlying35 hi hz0 hz1 hz2 rfl (by decide) _ _ _ rfl (HO2b.out.alloc _) ⟨w6.heap.size, 0, none⟩ 1 1 [.int .i64 (py : Nat)] rfl rfl ?c1 ?c2 ?c3 ?c4 ?c5 ?_)
                    case c1 =>
                      intro j u hj
                      match j, hj with
                      | 0, hj => simp at hj; subst hj; simp [Addr.add]
                    case c2 => intro u hu; simp at hu; subst hu; rfl
                    case c3 => unfold maxLen; omega
                    case c4 => omega
                    case c5 => have := HB6.out.size; simp; omega
                    intro u1 w7 hown' hgrow _ hat
                    have HB7 := hid ((HB6.out.alloc HB6.out.size (.cells #[.int .i64 (py : Nat)] 3)).grown hgrow (by have := HB6.out.size; simp; omega) (fun q hq => (World.ownsRow.lt HO2b.out q hq).1))
                    have HO2c : Hid (w7.ownsRow w5.heap.size 3 1 u1 (j + 1) ((P.ren p (D.take (j + 1))).map (Value.int .i64))) := hid (by rw [HS.out, P.ren_snoc, HPY.out]; simpa using hown')
                    have HO1c := hid ((HO1b.out.alloc (.cells #[.int .i64 (py : Nat)] 3)).kept hgrow (dis_kept (dis_symm HD6.out)))
                    have HD7 := hid (dis_symm (dis_new (dis_symm HD6.out) (fun q hq => (World.ownsRow.lt HO1b.out q hq).2) (H' := w6.heap.size + 1) hat (by omega)))
                    clear hown' hgrow hat HO1b HO2b HD6 HB6 hcj hpy
                    go_wp2
                    go_roundw
                    case rel => exact ⟨j + 1, by have := HLE.out; omega, by go_num, HO1c.out, HO2c.out, HD7.out, HB7.out⟩
                    case measure => simp [intOf]; omega
                  · rw [show decide (j < D.length) = false from by simpa using hjl]
                    have hje : j = D.length := by omega
                    subst hje
                    have hmL : D.length ≤ maxLen := by unfold maxLen; omega
                    have ho1 := HO1.out
                    have ho2 := HO2.out
                    rw [List.take_length] at ho1 ho2
                    have hxl2 : (P.ren p D).length = D.length := by simp [P.ren]
                    obtain ⟨r1, cr1, rfl, hr1⟩ := RdI.of_row ho1
                    obtain ⟨r2, cr2, rfl, hr2⟩ := RdI.of_row ho2
                    rw [hxl2]
                    have hsp := HREN.out.spots HTA.out
                    have hck1 := check_of_tab HTA.out
                    have hck2 := check_of_tab HREN.out.tab
                    have hdO := HREN.out.dg HDG.out
                    have hst1 := HTA.out.state_ok (show D.length ≤ 12 by omega) HDG.out
                    have hst2 := HREN.out.tab.state_ok (show (P.ren p D).length ≤ 12 by omega) hdO
                    rw [HREN.out.after HTA.out HDG.out] at hst2
                    have hrt := HREN.out.right HTA.out HDG.out (show D.length ≤ 12 by omega)
                    have hsl := HTA.out.sq.after_lt (show 0 < T.length by omega) D HDG.out
                    have C1 := hid (fun w' h1 => blind_any a c T w' h1)
                    have C2 := hid (fun w' h1 => blind_any (some ⟨N, 0, none⟩) T.length O w' h1)
                    have C3 := hid (fun w' h1 => twins_any a c T w' h1)
                    have C4 := hid (fun w' h1 => twins_any (some ⟨N, 0, none⟩) T.length O w' h1)
                    have C5 := hid (fun w' h1 h2 => state_any a r1 c cr1 T D w' hmL h1 h2)
                    have C6 := hid (fun w' h1 h2 => state_any (some ⟨N, 0, none⟩) r2 T.length cr2 O (P.ren p D) w' (by rw [hxl2]; exact hmL) h1 h2)
                    have C7 := hid (fun w' h1 h2 => right_any a r1 c cr1 T D w' hmL h1 h2)
                    have C8 := hid (fun w' h1 h2 => right_any (some ⟨N, 0, none⟩) r2 T.length cr2 O (P.ren p D) w' (by rw [hxl2]; exact hmL) h1 h2)
                    simp only [hck1, hst1] at C1 C3 C5
                    simp only [hck2, hst2, hxl2, HOL.out] at C2 C4 C6 C8
                    rw [← hrt] at C8
                    generalize P.after T D = s at *
                    have HPS := hid (HP5.out s hsl)
                    generalize p s = ps at *
                    generalize P.right T D = q at *
                    have HSP1 := hid hsp.1
                    have HSP2 := hid hsp.2
                    have HR1_6 := hid hr1
                    have HR2_6 := hid hr2
                    have t_q : (q == q) = true := by simp
                    have t_p : ((ps : Int) == (ps : Int)) = true := by simp
                    have hs1 : ¬ (T.length : Int) ≤ (s : Int) := by omega
                    have hs2 : decide ((T.length : Int) ≤ (s : Int)) = false := by simp; omega
                    have HT6 := hid (HT5.out.stays HBR.out)
                    have HO6 := hid (HO5.out.stays HBR.out)
                    have HPS6 := hid (cell_stays HBR.out (Nat.le_refl _) HPS.out)
                    have HB6 := hid (HB5.out.trans (HBR.out.mono HB5.out.size))
                    clear hsp hr1 hr2 ho1 ho2 hdO hst1 hst2 hrt hck1 hck2 HO1 HO2 HDI HBR HT5 HO5 HP5 HB5 HPS HREN HBJ HDG hxl2 HOL
                    obtain ⟨w6, rfl⟩ : ∃ w6 : World, w6 = wr := ⟨_, rfl⟩
                    go_wp2_with fail
                    refine (C1.out w6 HT6.out).mono ?_
                    rintro e w7 ⟨k1, kc1, F1, rfl, hF1, _, hb⟩
                    have HT7 := hid (HT6.out.stays hb)
                    have HO7 := hid (HO6.out.stays hb)
                    have HR1_7 := hid (HR1_6.out.stays hb)
                    have HR2_7 := hid (HR2_6.out.stays hb)
                    have HPS7 := hid (cell_stays hb (Nat.le_refl _) HPS6.out)
                    have HB7 := hid (HB6.out.trans (hb.mono HB6.out.size))
                    clear hb HT6 HO6 HR1_6 HR2_6 HPS6 HB6
                    have HF1 := hid hF1
                    clear hF1 C1
                    go_wp2_with fail
                    refine (C2.out w7 HO7.out).mono ?_
                    rintro e w8 ⟨k2, kc2, F2, rfl, hF2, _, hb⟩
                    have HT8 := hid (HT7.out.stays hb)
                    have HO8 := hid (HO7.out.stays hb)
                    have HR1_8 := hid (HR1_7.out.stays hb)
                    have HR2_8 := hid (HR2_7.out.stays hb)
                    have HPS8 := hid (cell_stays hb (Nat.le_refl _) HPS7.out)
                    have HB8 := hid (HB7.out.trans (hb.mono HB7.out.size))
                    clear hb HT7 HO7 HR1_7 HR2_7 HPS7 HB7
                    have HF2 := hid hF2
                    clear hF2 C2
                    go_wp2_with fail
                    refine (C3.out w8 HT8.out).mono ?_
                    rintro e w9 ⟨k3, kc3, F3, rfl, hF3, _, hb⟩
                    have HT9 := hid (HT8.out.stays hb)
                    have HO9 := hid (HO8.out.stays hb)
                    have HR1_9 := hid (HR1_8.out.stays hb)
                    have HR2_9 := hid (HR2_8.out.stays hb)
                    have HPS9 := hid (cell_stays hb (Nat.le_refl _) HPS8.out)
                    have HB9 := hid (HB8.out.trans (hb.mono HB8.out.size))
                    clear hb HT8 HO8 HR1_8 HR2_8 HPS8 HB8
                    have HF3 := hid hF3
                    clear hF3 C3
                    go_wp2_with fail
                    refine (C4.out w9 HO9.out).mono ?_
                    rintro e w10 ⟨k4, kc4, F4, rfl, hF4, _, hb⟩
                    have HT10 := hid (HT9.out.stays hb)
                    have HO10 := hid (HO9.out.stays hb)
                    have HR1_10 := hid (HR1_9.out.stays hb)
                    have HR2_10 := hid (HR2_9.out.stays hb)
                    have HPS10 := hid (cell_stays hb (Nat.le_refl _) HPS9.out)
                    have HB10 := hid (HB9.out.trans (hb.mono HB9.out.size))
                    clear hb HT9 HO9 HR1_9 HR2_9 HPS9 HB9
                    have t_12 : ((F1.length : Int) == (F2.length : Int)) = true := by rw [HF1.out, HF2.out, HSP1.out]; simp
                    have t_34 : ((F3.length : Int) == (F4.length : Int)) = true := by rw [HF3.out, hF4, HSP2.out]; simp
                    clear hF4 C4 HF1 HF2 HF3 HSP1 HSP2
                    go_wp2_with fail
                    refine (C5.out w10 HT10.out HR1_10.out).mono ?_
                    rintro e w11 ⟨rfl, hb⟩
                    have HT11 := hid (HT10.out.stays hb)
                    have HO11 := hid (HO10.out.stays hb)
                    have HR1_11 := hid (HR1_10.out.stays hb)
                    have HR2_11 := hid (HR2_10.out.stays hb)
                    have HPS11 := hid (cell_stays hb (Nat.le_refl _) HPS10.out)
                    have HB11 := hid (HB10.out.trans (hb.mono HB10.out.size))
                    clear hb HT10 HO10 HR1_10 HR2_10 HPS10 HB10
                    clear C5
                    go_wp2_with fail
                    refine (C6.out w11 HO11.out HR2_11.out).mono ?_
                    rintro e w12 ⟨rfl, hb⟩
                    have HT12 := hid (HT11.out.stays hb)
                    have HO12 := hid (HO11.out.stays hb)
                    have HR1_12 := hid (HR1_11.out.stays hb)
                    have HR2_12 := hid (HR2_11.out.stays hb)
                    have HPS12 := hid (cell_stays hb (Nat.le_refl _) HPS11.out)
                    have HB12 := hid (HB11.out.trans (hb.mono HB11.out.size))
                    clear hb HT11 HO11 HR1_11 HR2_11 HPS11 HB11
                    clear C6
                    have hps := HPS12.out
                    go_wp2_with fail
                    refine (C7.out w12 HT12.out HR1_12.out).mono ?_
                    rintro e w13 ⟨rfl, hb⟩
                    have HT13 := hid (HT12.out.stays hb)
                    have HO13 := hid (HO12.out.stays hb)
                    have HR1_13 := hid (HR1_12.out.stays hb)
                    have HR2_13 := hid (HR2_12.out.stays hb)
                    have HPS13 := hid (cell_stays hb (Nat.le_refl _) HPS12.out)
                    have HB13 := hid (HB12.out.trans (hb.mono HB12.out.size))
                    clear hb HT12 HO12 HR1_12 HR2_12 HPS12 HB12
                    clear C7 hps
                    go_wp2_with fail
                    refine (C8.out w13 HO13.out HR2_13.out).mono ?_
                    rintro e w14 ⟨rfl, hb⟩
                    have HT14 := hid (HT13.out.stays hb)
                    have HO14 := hid (HO13.out.stays hb)
                    have HR1_14 := hid (HR1_13.out.stays hb)
                    have HR2_14 := hid (HR2_13.out.stays hb)
                    have HPS14 := hid (cell_stays hb (Nat.le_refl _) HPS13.out)
                    have HB14 := hid (HB13.out.trans (hb.mono HB13.out.size))
                    clear hb HT13 HO13 HR1_13 HR2_13 HPS13 HB13
                    clear C8
                    go_wp2_with fail
                    refine (works_any _).mono ?_
                    rintro e w15 ⟨rfl, hb⟩
                    go_wp2
                    go_ret
                    exact ⟨rfl, HB14.out.trans (hb.mono HB14.out.size)⟩


/-! The row's frame (the guide's template). -/
set_option linter.unusedVariables false in
set_option maxRecDepth 100000 in
theorem serialRenamed_lifted (os : Os) (started : os.Started) (H : Type) (enc : TypeId × Value → H) :
    ReturnsInHanded {} Try.checked os 7 .any (Rows.serialRenamedSpec.pre6 enc Try.prog Try.f7 Rows.serialRenamedRow.domain false) (Rows.serialRenamedSpec.post enc Try.prog Try.f7 false true false false) := by
  refine returnsInHanded_of_change (C := Try.checked) own started (by kernel_rfl) Try.func7
    (ChangeSpec.witness6 (enc := enc) (C := Try.checked) false ⟨#[], #[.agg #[.int .u8 0, .int .u8 0, .int .u8 0, .int .u8 0, .int .u8 0, .int .u8 0, .int .u8 0, .int .u8 0, .int .u8 0, .int .u8 0, .int .u8 0, .int .u8 0, .int .u8 0, .int .u8 0, .int .u8 0, .int .u8 0, .int .u8 0], .agg #[.int .u8 0, .int .u8 0, .int .u8 0, .int .u8 0, .int .u8 0], .slice none 0 0], []⟩ 8 (by kernel_rfl) (by kernel_rfl) (by kernel_rfl) (by kernel_rfl)) ?_
  intro W base args ds gs before hval0 hW hcnd _
  have hval : ∀ (j : Nat) t v, Try.f7.params[j]? = some t → args[j]? = some v → Value.okWide Try.prog W .any base t v := hval0
  have hW' := hW
  obtain ⟨p, q, hA0, hV, rfl, hfz, hnd⟩ := hW
  have hA : DataW.TrodAll enc Try.prog W 0 (fun _ => true) true Try.f7.params.toList args.toList ds p := hA0
  rw [Try.params7] at hA hval
  obtain ⟨v0, vs0, d0, ds0, p0, q0, hargs, rfl, rfl, h0, r0⟩ := trodAll_cons hA
  obtain ⟨v1, vs1, d1, ds1, p1, q1, rfl, rfl, rfl, h1, r1⟩ := trodAll_cons r0
  obtain ⟨v2, vs2, d2, ds2, p2, q2, rfl, rfl, rfl, h2, r2⟩ := trodAll_cons r1
  obtain ⟨rfl, rfl, rfl⟩ := trodAll_nil r2
  obtain rfl : args = #[v0, v1, v2] := by cases args; simp_all
  obtain ⟨rfl, rfl⟩ := trodVars_none hV
  have k0 := h0
  have lt0 : ∀ x ∈ p0, x.block < W.heap.size := by obtain ⟨m, hm⟩ := k0; exact DataW.trod_lt m _ _ _ hm
  obtain ⟨c0, hv0, hc0⟩ := open_plate (hval 0 24 v0 rfl rfl) h0
  subst hv0
  have k1 := h1
  have lt1 : ∀ x ∈ p1, x.block < W.heap.size := by obtain ⟨m, hm⟩ := k1; exact DataW.trod_lt m _ _ _ hm
  obtain ⟨c1, hv1, hc1⟩ := open_arr5 (hval 1 22 v1 rfl rfl) h1
  subst hv1
  have k2 := h2
  have lt2 : ∀ x ∈ p2, x.block < W.heap.size := by obtain ⟨m, hm⟩ := k2; exact DataW.trod_lt m _ _ _ hm
  obtain ⟨a2, len2, cap2, rfl⟩ := okWide_slice Try.underlying42 (hval 2 42 v2 rfl rfl)
  obtain ⟨xs2, rfl, hc2, hm2, hR2, hw2⟩ := open_rdU h2
  clear hA0 hval0
  refine (serialRenamed_walk W c0 hc0 c1 hc1 a2 cap2 xs2 hc2 hm2 hR2 hw2 ).mono fun e W' ⟨he, bel⟩ => ?_
  subst he
  exact ⟨_, rfl, _, _, _, [], _, [], hW', trodAll_mk1 (shut_bool Try.underlying4 _), (trodAll_cons_mk (Below.trod laidOut (by kernel_rfl) (of_decide_eq_true (by kernel_rfl)) k0 bel lt0) (trodAll_cons_mk (Below.trod laidOut (by kernel_rfl) (of_decide_eq_true (by kernel_rfl)) k1 bel lt1) (trodAll_cons_mk (Below.trod laidOut (by kernel_rfl) (of_decide_eq_true (by kernel_rfl)) k2 bel lt2) trodAll_mk0))), rfl, bel.frame _, fun h => by cases h⟩

theorem serialRenamed_over : Rows.serialRenamedRow.holds Try.pinned (OpenSpec.ofChange Rows.serialRenamedSpec) :=
  OpenClaim.holds_of_wide 7 Try.f7 rfl rfl rfl rfl rfl rfl rfl ⟨rfl, rfl, rfl, rfl, rfl⟩ rfl rfl rfl rfl rfl (by kernel_rfl) Try.func7 (by kernel_rfl)
    (of_decide_eq_true (by kernel_rfl)) (by unfold Func.isWrapper; first | (rw [if_pos (by decide +kernel)]; kernel_rfl) | (rw [if_neg (by decide +kernel)]; exact ⟨rfl, rfl⟩))
    (fun os started H enc _ => serialRenamed_lifted os started H enc)

theorem serialRenamed_proved : Rows.SerialRenamedSaid := serialRenamed_over

end Go.Proofs.Ytlpdlnefgjmgmaa
