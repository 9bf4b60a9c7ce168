/- The walks of rigid's closure, lists and rigid. -/
import Derived.Test.YtmbfpekcfeeifaaKRgw
import Derived.Deep.LoopGhost
namespace Go.Proofs.Ytmbfpekcfeeifaa
open Go.RowKit

/-- What the search for motions has around it. -/
structure K.RgS (w0 w : World) (gr gb gg m n : Nat) (a : Option Addr) (c : Nat) (bs : List Br) (but : Int) (good : Bool) : Prop where
  rk : w.rowIs gr 24 3 (K.rkF m n (.slice a bs.length c))
  bt : w.cell? ⟨gb, 0, none⟩ = some (.int .i64 but)
  gd : w.rowIs gg 4 1 (fun _ => .bool good)
  below : Below w0.heap.size w0 w
  lo : w0.heap.size ≤ gg
  n1 : gr ≠ gg
  n2 : gb ≠ gg
theorem K.RgS.grown {w0 w w' : World} {gr gb gg m n : Nat} {a : Option Addr} {c : Nat} {bs : List Br} {but : Int} {good : Bool} (h : K.RgS w0 w gr gb gg m n a c bs but good) (hb : Below w.heap.size w w') : K.RgS w0 w' gr gb gg m n a c bs but good :=
  ⟨h.rk.of_block (hb.block _ h.rk.lt), cell_stays hb (Nat.le_refl _) h.bt, h.gd.of_block (hb.block _ h.gd.lt), h.below.trans (hb.mono h.below.size), h.lo, h.n1, h.n2⟩
theorem K.RgS.off {w0 w : World} {gr gb gg m n : Nat} {a : Option Addr} {c : Nat} {bs : List Br} {but : Int} {good : Bool} (h : K.RgS w0 w gr gb gg m n a c bs but good) {q : Nat} (h1 : gr ≠ q) (h2 : gb ≠ q) (h3 : gg ≠ q) (h4 : w0.heap.size ≤ q) (o : Nat) (u : Value) : K.RgS w0 (w.setCell ⟨q, o, none⟩ u) gr gb gg m n a c bs but good :=
  ⟨row_grown h.rk (grown_set _ _ _) (fun e => h1 (Option.some.inj e).symm), (World.cell?_of_block (Below.heap_setCell _ _ _ _ h2)).trans h.bt, row_grown h.gd (grown_set _ _ _) (fun e => h3 (Option.some.inj e).symm), h.below.setCell h4 _, h.lo, h.n1, h.n2⟩
theorem K.RgS.put {w0 w : World} {gr gb gg m n : Nat} {a : Option Addr} {c : Nat} {bs : List Br} {but : Int} {good : Bool} (h : K.RgS w0 w gr gb gg m n a c bs but good) (v : Bool) : K.RgS w0 (w.setCell ⟨gg, 0, none⟩ (.bool v)) gr gb gg m n a c bs but v :=
  ⟨row_grown h.rk (grown_set _ _ _) (fun e => h.n1 (Option.some.inj e).symm), (World.cell?_of_block (Below.heap_setCell _ _ _ _ h.n2)).trans h.bt, (h.gd.set 0 (.bool v)).congr (fun i hi => by rw [if_pos (by omega)]), h.below.setCell h.lo _, h.lo, h.n1, h.n2⟩

set_option maxHeartbeats 4000000 in
set_option maxRecDepth 100000 in
theorem each_any (m n : Nat) (a : Option Addr) (c : Nat) (bs : List Br) (but : Int) (w0 : World) (gr gb gg gl : Nat) (l : List Int) (good : Bool) (w : World) (hm : bs.length ≤ 24) (hR : RdB w0 a bs) (hin : ∀ b ∈ bs, K.InB m n b) (hk3 : ∀ b ∈ bs, b.2.2 = 0 ∨ b.2.2 = 1 ∨ b.2.2 = 2) (h6 : m ≤ 6) (h66 : n ≤ 6) (hl : l.length = m + n)
    (hS : K.RgS w0 w gr gb gg m n a c bs but good) (h1 : RdI w (some ⟨gl, 0, none⟩) l) :
    Calls Try.prog 75 #[.slice (some ⟨gl, 0, none⟩) l.length l.length, .pointer (some ⟨gr, 0, none⟩), .pointer (some ⟨gb, 0, none⟩), .pointer (some ⟨gg, 0, none⟩)] w
      fun e w' => e = .returned (.tuple #[]) ∧ K.RgS w0 w' gr gb gg m n a c bs but (good && !K.mvs m bs but l) ∧ But gg w w' := by
  have HEQ := hid (equal_any (some ⟨gl, 0, none⟩) l.length l w (by rw [hl]; unfold maxLen; omega) h1)
  have HKP := hid (keepsL_any m n a c bs (some ⟨gl, 0, none⟩) l.length l but w hm (hR.stays (hS.below.mono (Nat.le_refl _))) hin hk3 h6 h66 hl h1)
  have HS := hid hS
  have HMV : Hid (K.mvs m bs but l = (!K.same l && K.kla m l bs but bs.length)) := hid rfl
  have k0 : w.cell? ⟨gr, 0, none⟩ = some (.int .i64 (m : Int)) := hS.rk.cell (i := 0) (by omega)
  have k1 : w.cell? ⟨gr, 1, none⟩ = some (.int .i64 (n : Int)) := hS.rk.cell (i := 1) (by omega)
  have k2 : w.cell? ⟨gr, 2, none⟩ = some (.slice a bs.length c) := hS.rk.cell (i := 2) (by omega)
  have k3 := hS.bt
  clear hS hR hin hk3 h1 hl
  generalize K.mvs m bs but l = mv at *
  generalize K.kla m l bs but bs.length = kl at *
  generalize K.same l = sm at *
  unfold K.rk at HKP
  cases sm with
  | true =>
    have HE : Hid (mv = false) := hid (by rw [HMV.out]; rfl)
    go_enter Try.func75, Try.ntmps75
    go_wp2_with fail
    refine HEQ.out.mono ?_
    rintro e w1 ⟨rfl, rfl⟩
    go_wp2
    go_end0
    exact ⟨rfl, by rw [HE.out, Bool.not_false, Bool.and_true]; exact HS.out, But.refl _ _⟩
  | false =>
    cases kl with
    | false =>
      have HE : Hid (mv = false) := hid (by rw [HMV.out]; rfl)
      go_enter Try.func75, Try.ntmps75
      go_wp2_with fail
      refine HEQ.out.mono ?_
      rintro e w1 ⟨rfl, rfl⟩
      go_wp2_with fail
      refine HKP.out.mono ?_
      rintro e w2 ⟨rfl, hb⟩
      have HS2 := hid (HS.out.grown hb)
      have HBU := hid (But.of (g := gg) hb)
      clear hb
      go_wp2
      go_end0
      exact ⟨rfl, by rw [HE.out, Bool.not_false, Bool.and_true]; exact HS2.out, HBU.out⟩
    | true =>
      have HE : Hid (mv = true) := hid (by rw [HMV.out]; rfl)
      go_enter Try.func75, Try.ntmps75
      go_wp2_with fail
      refine HEQ.out.mono ?_
      rintro e w1 ⟨rfl, rfl⟩
      go_wp2_with fail
      refine HKP.out.mono ?_
      rintro e w2 ⟨rfl, hb⟩
      have HS2 := hid ((HS.out.grown hb).put false)
      have HBU := hid ((But.of (g := gg) hb).set 0 (.bool false))
      have y0 := (HS.out.grown hb).gd.cell (i := 0) (by omega)
      have f0 := (HS.out.grown hb).gd.frozen 0
      clear hb k0 k1 k2 k3
      go_wp2
      go_end0
      exact ⟨rfl, by rw [HE.out, Bool.not_true, Bool.and_false]; exact HS2.out, HBU.out⟩

/-- The list of a search, in memory: its first k numbers are 0 already. -/
def K.lsF (t k x : Nat) : Value := .int .i64 (if x < k then 0 else (K.dg 3 t x : Int))
theorem K.dg_more {q t k N : Nat} (hq : 0 < q) (ht : t < q ^ N) (hk : k < N) (h : K.dg q t k ≠ q - 1) : t + 1 < q ^ N := by
  rcases Nat.lt_or_ge (t + 1) (q ^ N) with h1 | h1
  · exact h1
  · exfalso
    refine h ?_
    obtain ⟨j, hj⟩ : ∃ j, N = k + (j + 1) := ⟨N - k - 1, by omega⟩
    have hp : 0 < q ^ k := Nat.pow_pos hq
    have hpj : 0 < q ^ j := Nat.pow_pos hq
    have e : q ^ N = q ^ k * (q * (q ^ j - 1) + q) := by
      rw [hj, Nat.pow_add, Nat.pow_succ]
      congr 1
      rw [← Nat.mul_succ, Nat.mul_comm]
      congr 1
      omega
    have e2 : t = q ^ k * (q * (q ^ j - 1) + (q - 1)) + (q ^ k - 1) := by
      have : q ^ k * (q * (q ^ j - 1) + q) = q ^ k * (q * (q ^ j - 1) + (q - 1)) + q ^ k := by
        rw [show q * (q ^ j - 1) + q = (q * (q ^ j - 1) + (q - 1)) + 1 by omega, Nat.mul_succ]
      omega
    unfold K.dg
    rw [e2, Nat.mul_add_div hp, Nat.div_eq_of_lt (show q ^ k - 1 < q ^ k by omega), Nat.add_zero, Nat.mul_add_mod, Nat.mod_eq_of_lt (show q - 1 < q by omega)]
theorem ls_rd {w : World} {gl N t : Nat} (h : w.rowIs gl 3 N (K.lsF t 0)) : RdI w (some ⟨gl, 0, none⟩) (K.dgs 3 N t) := fun k hk => ⟨gl, 0, rfl, by
  have hk' : k < N := by rwa [K.dgs_len] at hk
  have h1 := h.cell hk'
  have h2 : (K.dgs 3 N t)[k]? = some (K.dg 3 t k : Int) := K.dgs_at hk'
  rw [List.getElem?_eq_getElem hk] at h2
  rw [Nat.zero_add, h1, Option.some.inj h2]
  unfold K.lsF
  rw [if_neg (Nat.not_lt_zero _)]⟩

set_option maxHeartbeats 8000000 in
set_option maxRecDepth 100000 in
theorem lists_any (m n : Nat) (a : Option Addr) (c : Nat) (bs : List Br) (but : Int) (w0 : World) (gr gb gg : Nat) (w : World) (hm : bs.length ≤ 24) (hR : RdB w0 a bs) (hin : ∀ b ∈ bs, K.InB m n b) (hk3 : ∀ b ∈ bs, b.2.2 = 0 ∨ b.2.2 = 1 ∨ b.2.2 = 2) (h6 : m ≤ 6) (h66 : n ≤ 6)
    (hS : K.RgS w0 w gr gb gg m n a c bs but true) :
    Calls Try.prog 45 #[.int .i64 ((m + n : Nat) : Int), .int .i64 2, .func (.func 75) #[] #[.pointer (some ⟨gr, 0, none⟩), .pointer (some ⟨gb, 0, none⟩), .pointer (some ⟨gg, 0, none⟩)]] w
      fun e w' => e = .returned (.tuple #[]) ∧ K.RgS w0 w' gr gb gg m n a c bs but (K.rgk (m + n) m bs but (3 ^ (m + n))) := by
  have HEA := hid (fun gl t W good hS9 hr9 => each_any m n a c bs but w0 gr gb gg gl (K.dgs 3 (m + n) t) good W hm hR hin hk3 h6 h66 (K.dgs_len _ _ _) hS9 hr9)
  have HLN := hid (fun t => K.dgs_len 3 (m + n) t)
  have HMK := hid (run_make_row' (P := Try.prog) 40 3 (.int .i64 0) 8 Try.underlying40 (by kernel_rfl) rfl .i64 .i64 (m + n) (by omega) (by omega))
  have HS := hid hS
  have HRG := hid (fun t => show K.rgk (m + n) m bs but (t + 1) = (K.rgk (m + n) m bs but t && !K.mvs m bs but (K.dgs 3 (m + n) t)) from rfl)
  have hN12 : m + n ≤ 12 := by omega
  clear hS hR hin hk3
  generalize m + n = N at *
  have hmk := HMK.out
  go_enter Try.func45, Try.ntmps45
  go_wp2
  clear hmk HMK
  have HRW : Hid ((w.alloc (.cells (madeCells #[.int .i64 0] N) 3)).rowIs w.heap.size 3 N (K.lsF 0 0)) := hid ((World.rowIs_made w (.int .i64 0) N 3).congr (fun q _ => by unfold K.lsF K.dg; simp))
  have HS4 := hid (HS.out.grown ((Below.refl w.heap.size w).alloc (Nat.le_refl _) (.cells (madeCells #[.int .i64 0] N) 3)))
  have HNG : Hid (gr ≠ w.heap.size ∧ gb ≠ w.heap.size ∧ gg ≠ w.heap.size ∧ w0.heap.size ≤ w.heap.size) := hid (by
    have h1 := HS.out.rk.lt
    have h2 : gb < w.heap.size := World.block_lt_of_cell? _ _ HS.out.bt
    have h3 := HS.out.gd.lt
    exact ⟨by omega, by omega, by omega, HS.out.below.size⟩)
  generalize w.alloc (.cells (madeCells #[.int .i64 0] N) 3) = w4 at *
  generalize w.heap.size = gl at *
  clear HS w
  go_loopg [7] (3 ^ N) (fun g i wr => ∃ t, t < 3 ^ N ∧ 3 ^ N - t ≤ g ∧ wr.rowIs gl 3 N (K.lsF t 0) ∧ K.RgS w0 wr gr gb gg m n a c bs but (K.rgk N m bs but t))
  case atStart => exact ⟨0, Nat.pow_pos (by decide), Nat.sub_le _ _, HRW.out, HS4.out⟩
  case round =>
    clear HRW HS4
    obtain ⟨t, ht, htg, hrw, hs⟩ := hrel
    have HT := hid ht
    have HTG := hid htg
    have HRW := hid hrw
    have HE1 := hid (HEA.out gl t wr _ hs (ls_rd hrw))
    rw [HLN.out] at HE1
    rw [← HRG.out] at HE1
    clear hrw hs ht htg
    go_wp2_with fail
    refine HE1.out.mono ?_
    rintro e w5 ⟨rfl, hs5, hbu⟩
    have HR5 := hid (hbu.row HRW.out (fun e => HNG.out.2.2.1 e.symm))
    have HS5 := hid hs5
    clear hs5 hbu HRW HE1 HEA HRG
    generalize hrgd : K.rgk N m bs but (t + 1) = rgd at *
    have HRGD := hid hrgd
    clear hrgd wr
    go_wp2
    go_loopw [7] (fun i wr => ∃ k : Nat, k ≤ N ∧ i = .int .i64 k ∧ (∀ x, x < k → K.dg 3 t x = 2) ∧ wr.rowIs gl 3 N (K.lsF t k) ∧ K.RgS w0 wr gr gb gg m n a c bs but rgd) (fun i _ => N - (intOf i).toNat)
    case atStart => exact ⟨0, Nat.zero_le _, rfl, fun x hx => absurd hx (Nat.not_lt_zero _), HR5.out, HS5.out⟩
    case round =>
      clear HR5 HS5
      obtain ⟨k, hk, rfl, hdg, hrw, hs⟩ := hrel
      have HDG := hid hdg
      have HRW := hid hrw
      have HS := hid hs
      by_cases hlt : k < N
      · have y1 : wr.cell? ⟨gl, k, none⟩ = some (.int .i64 (K.dg 3 t k : Int)) := by
          have := hrw.cell hlt
          unfold K.lsF at this
          rwa [if_neg (Nat.lt_irrefl _)] at this
        have f1 := hrw.frozen k
        have hd3 := K.dg_lt (q := 3) (by decide) t k
        have hix : (0 : Int) ≤ (k : Int) ∧ (k : Int) < (N : Int) := by omega
        have HSU := hid (fun (hne : K.dg 3 t k ≠ 2) (x : Nat) => K.dg_succ (q := 3) (t := t) (k := k) (by decide) HDG.out hne x)
        have HMO := hid (fun (hne : K.dg 3 t k ≠ 2) => K.dg_more (q := 3) (by decide) HT.out hlt hne)
        clear hdg hrw hs
        by_cases hd : K.dg 3 t k = 2
        · have HDN : Hid (∀ x, x < k + 1 → K.dg 3 t x = 2) := hid (fun x hx => by
            by_cases e : x = k
            · rw [e]; exact hd
            · exact HDG.out x (by omega))
          rw [hd] at y1
          have HRN : Hid ((wr.setCell ⟨gl, k, none⟩ (.int .i64 0)).rowIs gl 3 N (K.lsF t (k + 1))) := hid ((HRW.out.set k (.int .i64 0)).congr fun x _ => by
            unfold K.lsF
            by_cases e : x = k
            · subst e; simp
            · by_cases e2 : x < k
              · simp [e, e2, show x < k + 1 by omega]
              · simp [e, e2, show ¬ x < k + 1 by omega])
          have HSN := hid (HS.out.off (q := gl) HNG.out.1 HNG.out.2.1 HNG.out.2.2.1 HNG.out.2.2.2 k (.int .i64 0))
          clear hd hd3 HSU HMO
          go_wp2
          go_roundw
          case rel => exact ⟨k + 1, by omega, by go_num, HDN.out, HRN.out, HSN.out⟩
          case measure => simp [intOf]; omega
        · have HS9 := hid (HSU.out hd)
          have HM9 := hid (HMO.out hd)
          have HRN : Hid ((wr.setCell ⟨gl, k, none⟩ (.int .i64 ((K.dg 3 t k : Int) + 1))).rowIs gl 3 N (K.lsF (t + 1) 0)) := hid ((HRW.out.set k (.int .i64 ((K.dg 3 t k : Int) + 1))).congr fun x _ => by
            have h9 := HS9.out x
            unfold K.lsF
            rw [if_neg (Nat.not_lt_zero _)]
            by_cases e : x = k
            · subst e
              rw [if_pos rfl]
              rw [if_neg (Nat.lt_irrefl _), if_pos rfl] at h9
              rw [h9]; simp
            · rw [if_neg e]
              rw [if_neg e] at h9
              by_cases e2 : x < k
              · rw [if_pos e2]; rw [if_pos e2] at h9; rw [h9]; simp
              · rw [if_neg e2]; rw [if_neg e2] at h9; rw [h9])
          have HSN := hid (HS.out.off (q := gl) HNG.out.1 HNG.out.2.1 HNG.out.2.2.1 HNG.out.2.2.2 k (.int .i64 ((K.dg 3 t k : Int) + 1)))
          have hne : ((K.dg 3 t k : Int) == 2) = false := by rw [beq_eq_false_iff_ne]; omega
          have hkN : ((k : Int) == (N : Int)) = false := by rw [beq_eq_false_iff_ne]; omega
          generalize K.dg 3 t k = D at *
          have hwd : IntKind.i64.wrap ((D : Int) + 1) = (D : Int) + 1 := IntWalk.i64_in _ (by omega)
          clear HSU HMO hd
          go_wp2
          go_roundg (3 ^ N - (t + 1))
          case measure => have h1 := HT.out; have h2 := HTG.out; omega
          case rel => exact ⟨t + 1, HM9.out, Nat.le_refl _, HRN.out, by rw [HRGD.out]; exact HSN.out⟩
      · have hke : k = N := by omega
        subst hke
        have HEQ : Hid (t + 1 = 3 ^ k) := hid (K.dg_last (q := 3) (by decide) HT.out (fun x hx => HDG.out x hx))
        have HRF : Hid (rgd = K.rgk k m bs but (3 ^ k)) := hid (by rw [← HEQ.out]; exact HRGD.out.symm)
        clear hdg hrw hs
        go_wp2
        refine bodyPost_ret (results_none rfl _ _ _) rfl ?_
        exact ⟨rfl, by rw [← HRF.out]; exact HS.out⟩

set_option maxHeartbeats 4000000 in
set_option maxRecDepth 100000 in
theorem rigid_any (m n : Nat) (a : Option Addr) (c : Nat) (bs : List Br) (but : Int) (w : World) (hm : bs.length ≤ 24) (hR : RdB w a bs) (hin : ∀ b ∈ bs, K.InB m n b) (hk3 : ∀ b ∈ bs, b.2.2 = 0 ∨ b.2.2 = 1 ∨ b.2.2 = 2) (h6 : m ≤ 6) (h66 : n ≤ 6) :
    Calls Try.prog 42 #[K.rk m n a bs.length c, .int .i64 but] w
      fun e w' => e = .returned (.bool (K.rgk (m + n) m bs but (3 ^ (m + n)))) ∧ Below w.heap.size w w' := by
  have hs1 : (w.alloc (.cells #[.int .i64 (m : Int), .int .i64 (n : Int), .slice a bs.length c] 24)).heap.size = w.heap.size + 1 := by simp
  have hs2 : ((w.alloc (.cells #[.int .i64 (m : Int), .int .i64 (n : Int), .slice a bs.length c] 24)).alloc (.cells #[.int .i64 but] 3)).heap.size = w.heap.size + 1 + 1 := by simp
  have hb : Below w.heap.size w (((w.alloc (.cells #[.int .i64 (m : Int), .int .i64 (n : Int), .slice a bs.length c] 24)).alloc (.cells #[.int .i64 but] 3)).alloc (.cells #[.bool true] 4)) :=
    (((Below.refl _ w).alloc (Nat.le_refl _) _).alloc (by rw [hs1]; exact Nat.le_succ _) _).alloc (by rw [hs2]; omega) _
  have r1 : (w.alloc (.cells #[.int .i64 (m : Int), .int .i64 (n : Int), .slice a bs.length c] 24)).rowIs w.heap.size 24 3 (K.rkF m n (.slice a bs.length c)) := World.rowIs_alloc w #[.int .i64 (m : Int), .int .i64 (n : Int), .slice a bs.length c] 24 _ (fun i hi => by
    have h : i < 3 := hi
    have h2 : i = 0 ∨ i = 1 ∨ i = 2 := by omega
    rcases h2 with rfl | rfl | rfl <;> rfl)
  have r3 := World.rowIs_alloc ((w.alloc (.cells #[.int .i64 (m : Int), .int .i64 (n : Int), .slice a bs.length c] 24)).alloc (.cells #[.int .i64 but] 3)) #[.bool true] 4 (fun _ => .bool true) (fun i hi => by
    have h : i < 1 := hi
    have h2 : i = 0 := by omega
    subst h2; rfl)
  rw [hs2] at r3
  have r2 : (((w.alloc (.cells #[.int .i64 (m : Int), .int .i64 (n : Int), .slice a bs.length c] 24)).alloc (.cells #[.int .i64 but] 3)).alloc (.cells #[.bool true] 4)).cell? ⟨w.heap.size + 1, 0, none⟩ = some (.int .i64 but) := by
    rw [World.cell?_of_block (Below.heap_alloc _ _ _ (by rw [hs2]; exact Nat.lt_succ_self _)), World.cell?_alloc_at _ _ _ _ (by rw [hs1])]; rfl
  have HS : Hid (K.RgS w (((w.alloc (.cells #[.int .i64 (m : Int), .int .i64 (n : Int), .slice a bs.length c] 24)).alloc (.cells #[.int .i64 but] 3)).alloc (.cells #[.bool true] 4)) w.heap.size (w.heap.size + 1) (w.heap.size + 1 + 1) m n a c bs but true) := hid
    ⟨(World.rowIs.alloc (World.rowIs.alloc r1 _) _), r2, r3, hb, by omega, by omega, by omega⟩
  have HLS := hid (lists_any m n a c bs but w w.heap.size (w.heap.size + 1) (w.heap.size + 1 + 1) _ hm hR hin hk3 h6 h66 HS.out)
  have hws : IntKind.i64.wrap ((m : Int) + (n : Int)) = ((m + n : Nat) : Int) := by rw [IntWalk.i64_in _ (by omega)]; rfl
  clear hs1 hs2 hb r1 r2 r3 hR hin hk3 HS
  generalize hN : m + n = N at *
  generalize K.rgk N m bs but (3 ^ N) = rg at *
  unfold K.rk
  go_enter Try.func42, Try.ntmps42
  go_wp2_with fail
  refine HLS.out.mono ?_
  rintro e w5 ⟨rfl, hs⟩
  have y0 := hs.gd.cell (i := 0) (by omega)
  have HB := hid hs.below
  clear hs
  go_wp2
  go_ret
  exact ⟨rfl, HB.out⟩
end Go.Proofs.Ytmbfpekcfeeifaa
