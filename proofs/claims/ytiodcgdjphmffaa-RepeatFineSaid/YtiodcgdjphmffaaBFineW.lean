/- The walk of RepeatFine. -/
import Derived.Test.YtiodcgdjphmffaaBFineP
import Derived.Test.YtiodcgdjphmffaaBWid2
import Derived.Test.YtiodcgdjphmffaaBWorks
namespace Go.Proofs.Ytiodcgdjphmffaa
open Go.RowKit

/-- The first places under other names. -/
def B.obn (h : Nat → Nat) (N : List Nat) (j : Nat) : List UInt8 := (N.take j).map fun c => UInt8.ofNat (97 + h c % 5)
theorem B.obn_succ (h : Nat → Nat) (N : List Nat) (j c : Nat) (hj : N[j]? = some c) : B.str (B.obn h N (j + 1)) = B.str (B.obn h N j) ++ ⟨#[UInt8.ofNat (97 + h c % 5)]⟩ := by
  refine B.ext ?_
  rw [B.append_data]
  simp [B.str, B.obn, List.take_add_one, hj]

theorem B.one_byte (w : World) (v : Int) (x : UInt8) (hv : v = (x.toNat : Int)) :
    (convert 48 9 (.slice (some ⟨w.heap.size, 0, none⟩) 1 1)).run Try.prog (w.alloc (.cells #[.int .u8 v] 5)) = .ok (.string ⟨#[x]⟩) (w.alloc (.cells #[.int .u8 v] 5)) := by
  refine run_convert_bytes_back (w.alloc (.cells #[.int .u8 v] 5)) 48 9 5 ⟨w.heap.size, 0, none⟩ 1 [x] Try.underlying48 Try.underlying5 Try.underlying9 (fun j hj => ?_)
  have hj0 : j = 0 := by simpa using hj
  subst hj0
  rw [Addr.add_lit, World.cell?_alloc_at _ _ _ _ rfl, hv]
  rfl

set_option maxHeartbeats 8000000 in
set_option maxRecDepth 100000 in
theorem repeatFine_any (f h : Nat → Nat) (w : World) (hm : MaxL w) (hf : ∀ k, f k < 256) (hh : ∀ k, h k < 256) :
    Calls Try.prog 7 #[arr8 f 3, arr8 h 24] w fun e w' => e = .returned (.bool true) ∧ Below w.heap.size w w' := by
  unfold arr8
  have hb1 := (Below.refl w.heap.size w).alloc (Nat.le_refl _) (.cells (cells8 f 3).toArray 44)
  have hx1 := box8 f 3 44 w
  have hs1 : (w.alloc (.cells (cells8 f 3).toArray 44)).heap.size = w.heap.size + 1 := by simp
  generalize hw1 : w.alloc (.cells (cells8 f 3).toArray 44) = w1 at *
  have hb2 : Below w1.heap.size w1 (w1.alloc (.cells (cells8 h 24).toArray 45)) := (Below.refl _ w1).alloc (Nat.le_refl _) _
  have hx2 := box8 h 24 45 w1
  have hs2 : (w1.alloc (.cells (cells8 h 24).toArray 45)).heap.size = w1.heap.size + 1 := by simp
  have hx1' := hx1.stays hb2
  generalize hw2 : w1.alloc (.cells (cells8 h 24).toArray 45) = w2 at *
  have HB2 := hid (hb1.trans (hb2.mono hb1.size))
  have HM := hid hm
  have HSZ : Hid (w1.heap.size < w2.heap.size) := hid (by omega)
  have k0 := hx1' 0 (by omega)
  have k1 := hx1' 1 (by omega)
  have k2 := hx1' 2 (by omega)
  rw [hs1] at hx2
  have HX2 := hid hx2
  have HW1 := hid hw1
  have HW2 := hid hw2
  clear hb1 hb2 hx1 hx1' hx2 hs2 hm
  obtain ⟨n, hn⟩ : ∃ n : Nat, n = 1 + f 0 % 24 := ⟨_, rfl⟩
  obtain ⟨p, hp⟩ : ∃ p : Nat, p = 1 + f 1 % n := ⟨_, rfl⟩
  obtain ⟨q, hq⟩ : ∃ q : Nat, q = 1 + f 2 % n := ⟨_, rfl⟩
  have hn0 : (1 : Int) + (((f 0 : Nat) : Int) % 24) = (n : Int) := by omega
  have hn1 : 1 ≤ n ∧ n ≤ 24 := by omega
  have hr1 : ((f 1 : Nat) : Int).tmod (n : Int) = ((f 1 % n : Nat) : Int) := by rw [Int.tmod_eq_emod_of_nonneg (by omega)]; push_cast; rfl
  have hr2 : ((f 2 : Nat) : Int).tmod (n : Int) = ((f 2 % n : Nat) : Int) := by rw [Int.tmod_eq_emod_of_nonneg (by omega)]; push_cast; rfl
  have hpm := Nat.mod_lt (f 1) (show 0 < n by omega)
  have hqm := Nat.mod_lt (f 2) (show 0 < n by omega)
  have hp0 : (1 : Int) + ((f 1 : Nat) : Int) % (n : Int) = (p : Int) := by rw [hp]; push_cast; rfl
  have hq0 : (1 : Int) + ((f 2 : Nat) : Int) % (n : Int) = (q : Int) := by rw [hq]; push_cast; rfl
  have hp1 : 1 ≤ p ∧ p ≤ n := by omega
  have hq1 : 1 ≤ q ∧ q ≤ n := by omega
  have hw0 : IntKind.i64.wrap ((f 0 : Nat) : Int) = (f 0 : Int) := IntWalk.i64_in _ (by have := hf 0; omega)
  have hwp : IntKind.i64.wrap ((f 1 : Nat) : Int) = (f 1 : Int) := IntWalk.i64_in _ (by have := hf 1; omega)
  have hwq : IntKind.i64.wrap ((f 2 : Nat) : Int) = (f 2 : Int) := IntWalk.i64_in _ (by have := hf 2; omega)
  have hne : ¬ (n : Int) = 0 := by omega
  have hne2 : ¬ n = 0 := by omega
  have hpos : (0 : Int) < (n : Int) := by omega
  have HFI := hid (B.fine_all hn1 hp1 hq1)
  generalize B.widN n p q = N at *
  have hlen := HFI.out.len
  have hsz : (B.str (B.byt N)).size = n := by rw [B.str_size, B.byt_len, hlen]
  have hbyt : ∀ i (hi : i < n), ∃ c, N[i]? = some c ∧ c < 24 ∧ (((B.str (B.byt N))[i]'(by rw [hsz]; exact hi)).toNat = 97 + c) := fun i hi => by
    have hi2 : i < N.length := by omega
    have hc := HFI.out.lt _ (List.getElem_mem hi2)
    refine ⟨N[i], List.getElem?_eq_getElem hi2, hc, ?_⟩
    have e : (B.str (B.byt N))[i]'(by rw [hsz]; exact hi) = (B.byt N)[i]'(by rw [B.byt_len]; exact hi2) := rfl
    rw [e]
    simp only [B.byt, List.getElem_map, UInt8.toNat_ofNat']
    omega
  have KC := hid (fun w => common_any p q w (by omega) (by omega))
  have KWD : Hid (∀ w, Calls Try.prog 25 #[.int .i64 p, .int .i64 q, .int .i64 n] w fun e w' => e = .returned (.tuple #[.string (B.str (B.byt N)), .int .i64 0]) ∧ Below w.heap.size w w') := hid (fun w => by
    rw [HFI.out.row]; exact wide_good p q n w hn1.1 hn1.2 hp1 hq1)
  have KP := hid (fun w => periods_any (B.str (B.byt N)) w (by rw [hsz]; unfold maxLen; omega))
  have hchk : B.chk (B.str (B.byt N)) = 0 := B.chk_names (N := N) (fun x => UInt8.ofNat (97 + x)) (by omega) (by omega) (fun x hx => by
    have := HFI.out.lt x hx
    simp only [UInt8.toNat_ofNat']
    omega)
  have hV : B.periodsV (B.str (B.byt N)) = (B.sel (B.per (B.byt N)) n, 0) := by
    unfold B.periodsV
    rw [if_pos hchk, hsz]
    rfl
  rw [hV] at KP
  have KG : Hid (∀ k w, 1 ≤ k → k ≤ n → Calls Try.prog 38 #[.string (B.str (B.byt N)), .int .i64 k] w fun e w' => e = .returned (.bool (B.per (B.byt N) k)) ∧ Below w.heap.size w w') := hid (fun k w h1 h2 => by
    have := goes_any (B.str (B.byt N)) k w (by omega) (by omega) (fun i hi => by
      obtain ⟨c, _, hc, e⟩ := hbyt i (by omega)
      rw [e]; omega)
    rwa [B.str_data, B.goes_in h1 (by rw [B.byt_len]; omega)] at this)
  have hg1 : 1 ≤ Nat.gcd p q ∧ Nat.gcd p q ≤ n := ⟨Nat.gcd_pos_of_pos_left q (by omega), Nat.le_trans (Nat.gcd_le_left q (by omega)) hp1.2⟩
  have HORD := HFI.out.ord
  have HPG := hid HFI.out.perg
  have HPN := hid HFI.out.pern
  have hpp := HFI.out.perp
  have hpq := HFI.out.perq
  have KGp : Hid (∀ w, Calls Try.prog 38 #[.string (B.str (B.byt N)), .int .i64 p] w fun e w' => e = .returned (.bool true) ∧ Below w.heap.size w w') := hid (fun w => by have := KG.out p w hp1.1 hp1.2; rwa [hpp] at this)
  have KGq : Hid (∀ w, Calls Try.prog 38 #[.string (B.str (B.byt N)), .int .i64 q] w fun e w' => e = .returned (.bool true) ∧ Below w.heap.size w w') := hid (fun w => by have := KG.out q w hq1.1 hq1.2; rwa [hpq] at this)
  have HPP := hid hpp
  have HPQ := hid hpq
  clear hpp hpq
  generalize Nat.gcd p q = g at *
  have HO : Hid (B.ordN N 0 (max g (p + q - n)) = true) := hid HORD
  clear HORD
  have HBY := hid hbyt
  clear hbyt hV hchk
  have HLEN := hid hlen
  clear hlen hn hp hq
  have e1 : ((n : Int) != (n : Int)) = false := by simp
  have hF : max (g : Int) ((p : Int) + (q : Int) - (n : Int)) = ((max g (p + q - n) : Nat) : Int) := by omega
  generalize max g (p + q - n) = F at *
  generalize hS : B.str (B.byt N) = s at *
  have HS := hid hS
  clear hS
  go_enter Try.func7, Try.ntmps7
  go_wp2_with fail
  go_quiet (fail)
  clear k0 k1 k2 hw1 hw2 hs1 hr1 hr2 hpm hqm hp0 hq0 hn0 hw0 hwp hwq hne hne2 hpos
  go_wp2_with fail
  refine (KC.out _).mono ?_
  rintro e w3 ⟨rfl, b3⟩
  have H0 := below_drewN (Below.refl w2.heap.size w2) nq
  have H3 := hid (H0.trans (b3.mono H0.size))
  clear b3 H0 KC
  go_wp2_with fail
  refine (KWD.out _).mono ?_
  rintro e w4 ⟨rfl, b4⟩
  have H4 := hid (H3.out.trans (b4.mono H3.out.size))
  clear b4 KWD H3
  go_wp2_with fail
  refine (KP.out _).mono ?_
  rintro e w5 ⟨aL, cL, rfl, rL, b5⟩
  have H5 := hid (H4.out.trans (b5.mono H4.out.size))
  have HRL := hid rL
  clear b5 KP H4 rL
  go_wp2_with fail
  refine (KGp.out _).mono ?_
  rintro e w6 ⟨rfl, b6⟩
  have H6 := hid (H5.out.trans (b6.mono H5.out.size))
  have H56 := hid b6
  clear b6 H5
  go_wp2_with fail
  refine (KGq.out _).mono ?_
  rintro e w7 ⟨rfl, b7⟩
  have H7 := hid (H6.out.trans (b7.mono H6.out.size))
  have H57 := hid (H56.out.trans (b7.mono H56.out.size))
  clear b7 H6 H56
  go_wp2_with fail
  go_loopg [13] n (fun gg y wr => ∃ k fg : Nat, k ≤ n ∧ gg = n - k ∧ y = .int .i64 fg ∧ wr = w7.iter s k ∧ fg ≤ k ∧ Hid (B.ordN (N.drop k) fg F = true))
  case atStart => exact ⟨0, 0, Nat.zero_le _, rfl, rfl, rfl, Nat.le_refl _, hid (by simpa using HO.out)⟩
  case round =>
    obtain ⟨k, fg, hk, rfl, rfl, rfl, hfk, HOK⟩ := hrel
    by_cases hlt : k < n
    · have hks : k < s.size := by omega
      obtain ⟨c, hc1, hc2, hc3⟩ := HBY.out k hlt
      have hkl : k < N.length := by have := HLEN.out; omega
      have hcN : N[k] = c := by rw [List.getElem?_eq_getElem hkl] at hc1; exact Option.some.inj hc1
      have ho := HOK.out
      rw [List.drop_eq_getElem_cons hkl, hcN] at ho
      obtain ⟨hcf, ho2⟩ := B.ordN_step ho
      have hnx := fun ty => run_next_ascii (P := Try.prog) w7 s k ty hks (by omega)
      have hix : (0 : Int) ≤ (k : Int) ∧ (k : Int) < (s.size : Int) := by omega
      have h1 : ¬ (97 : Int) + (fg : Int) < ((s[k]'hks).toNat : Int) := by omega
      have h2 : ¬ ((s[k]'hks).toNat : Int) < 97 := by omega
      have hwc : IntKind.i64.wrap (((s[k]'hks).toNat : Nat) : Int) = ((s[k]'hks).toNat : Int) := IntWalk.i64_in _ (by omega)
      have HC3 := hid hc3
      clear hc1 hkl hcN ho hc3
      by_cases hcc : c = fg
      · rw [if_pos hcc] at ho2
        have HO2 := hid ho2
        have h3 : (((s[k]'hks).toNat : Int) == (97 : Int) + (fg : Int)) = true := by have := HC3.out; simp; omega
        clear ho2 hcc hcf hc2
        go_wp2
        go_roundg (n - (k + 1))
        case measure => omega
        case rel => exact ⟨k + 1, fg + 1, by omega, rfl, by go_num, rfl, by omega, HO2⟩
      · rw [if_neg hcc] at ho2
        have HO2 := hid ho2
        have h3 : (((s[k]'hks).toNat : Int) == (97 : Int) + (fg : Int)) = false := by have := HC3.out; simp; omega
        clear ho2 hcc hcf hc2
        go_wp2
        go_roundg (n - (k + 1))
        case measure => omega
        case rel => exact ⟨k + 1, fg, by omega, rfl, rfl, rfl, by omega, HO2⟩
    · have hk' : k = n := by omega
      subst hk'
      have hnx := fun ty => run_next_end (P := Try.prog) w7 s k ty (by omega)
      have hfF : fg = F := by
        have h := HOK.out
        rw [List.drop_of_length_le (by have := HLEN.out; omega), B.ordN] at h
        simpa using h
      subst hfF
      clear HOK HO
      have e2 : ((fg : Int) != (fg : Int)) = false := by simp
      have H8 := hid (H7.out.trans ((below_iter w7 s k).mono H7.out.size))
      have H58 := hid (H57.out.trans ((below_iter w7 s k).mono H57.out.size))
      generalize w7.iter s k = w8 at *
      by_cases hc : p + q ≤ k + g
      case' pos =>
        have hd1 : decide ((p : Int) + (q : Int) - (g : Int) ≤ (k : Int)) = true := decide_eq_true (by omega)
        have hd1' : (p : Int) + (q : Int) - (g : Int) ≤ (k : Int) := by omega
        have hd2 : decide ((k : Int) < (p : Int) + (q : Int) - (g : Int)) = false := decide_eq_false (by omega)
        have hd2' : ¬ ((k : Int) < (p : Int) + (q : Int) - (g : Int)) := by omega
        have KGg : Hid (∀ w, Calls Try.prog 38 #[.string s, .int .i64 g] w fun e w' => e = .returned (.bool true) ∧ Below w.heap.size w w') := hid (fun w => by have := KG.out g w hg1.1 hg1.2; rwa [HPG.out hc] at this)
      case' neg =>
        have hd1 : decide ((p : Int) + (q : Int) - (g : Int) ≤ (k : Int)) = false := decide_eq_false (by omega)
        have hd2 : decide ((k : Int) < (p : Int) + (q : Int) - (g : Int)) = true := decide_eq_true (by omega)
        have hd2' : (k : Int) < (p : Int) + (q : Int) - (g : Int) := by omega
        have hd1' : ¬ (p : Int) + (q : Int) - (g : Int) ≤ (k : Int) := by omega
        have KGg : Hid (∀ w, Calls Try.prog 38 #[.string s, .int .i64 g] w fun e w' => e = .returned (.bool false) ∧ Below w.heap.size w w') := hid (fun w => by have := KG.out g w hg1.1 hg1.2; rwa [HPN.out hc] at this)
      all_goals
        have HC := hid hc
        clear hc
        go_wp2_with fail
        refine (KGg.out _).mono ?_
        rintro e w9 ⟨rfl, b9⟩
        have H9 := hid (H8.out.trans (b9.mono H8.out.size))
        have H59 := hid (H58.out.trans (b9.mono H58.out.size))
        clear b9 H8 H58 H7 H57 KGg hnx
        go_wp2_with fail
        clear hF hd1 hd1' hd2 hd2'
        have HLL := hid (B.sel_len (B.per (B.byt N)) k)
        have HSEL : Hid (∀ j m, 1 ≤ j → j ≤ k → m = (B.sel (B.per (B.byt N)) (j - 1)).length → (B.per (B.byt N) j = true → (B.sel (B.per (B.byt N)) k)[m]? = some (j : Int) ∧ (B.sel (B.per (B.byt N)) j).length = m + 1) ∧
            (B.per (B.byt N) j = false → (∀ v, (B.sel (B.per (B.byt N)) k)[m]? = some v → v ≠ (j : Int)) ∧ (B.sel (B.per (B.byt N)) j).length = m)) := hid (fun j m h1 h2 hm => by
          obtain ⟨x, rfl⟩ : ∃ x, j = x + 1 := ⟨j - 1, by omega⟩
          rw [Nat.add_sub_cancel] at hm
          subst hm
          exact ⟨fun hf => B.sel_at h2 hf, fun hf => B.sel_not h2 hf⟩)
        have HEND : Hid (B.sel (B.per (B.byt N)) k = B.sel (B.per (B.byt N)) k) := hid rfl
        go_loopw [15, 16] (fun y15 y16 wr => ∃ j m : Nat, 1 ≤ j ∧ j ≤ k + 1 ∧ y16 = .int .i64 j ∧ y15 = .int .i64 m ∧ m = (B.sel (B.per (B.byt N)) (j - 1)).length ∧ Below w9.heap.size w9 wr) (fun _ y16 _ => k + 1 - (intOf y16).toNat)
        case atStart => exact ⟨1, 0, Nat.le_refl _, by omega, rfl, rfl, rfl, Below.refl _ _⟩
        case round =>
          obtain ⟨j, m, hj1, hj2, rfl, rfl, hmj, hbel⟩ := hrel
          have HMJ := hid hmj
          have HR := hid hbel
          clear hmj hbel
          by_cases hlt2 : j ≤ k
          · obtain ⟨sl1, sl2⟩ := HSEL.out j m hj1 hlt2 HMJ.out
            cases hper : B.per (B.byt N) j with
            | true =>
              obtain ⟨hat, hnl⟩ := sl1 hper
              have KGj : Hid (∀ w, Calls Try.prog 38 #[.string s, .int .i64 j] w fun e w' => e = .returned (.bool true) ∧ Below w.heap.size w w') := hid (fun w => by have := KG.out j w hj1 hlt2; rwa [hper] at this)
              obtain ⟨hml, hmv⟩ := List.getElem?_eq_some_iff.1 hat
              have hm24 : m ≤ 24 := by have := HLL.out; omega
              have HNL := hid hnl
              clear sl1 sl2 hper hat hnl
              go_wp2_with fail
              refine (KGj.out _).mono ?_
              rintro e w10 ⟨rfl, b10⟩
              have H10 := hid (HR.out.trans (b10.mono HR.out.size))
              obtain ⟨bb, off, rfl, hcell⟩ := (HRL.out.stays (H59.out.trans (H10.out.mono H59.out.size))) m hml
              rw [hmv] at hcell
              have hix : (0 : Int) ≤ (m : Int) ∧ (m : Int) < ((B.sel (B.per (B.byt N)) k).length : Int) := by omega
              have hd3 : decide ((m : Int) < ((B.sel (B.per (B.byt N)) k).length : Int)) = true := decide_eq_true (by omega)
              have hd4 : (m : Int) < ((B.sel (B.per (B.byt N)) k).length : Int) := by omega
              clear b10 hmv
              go_wp2_with fail
              refine (KGj.out _).mono ?_
              rintro e w11 ⟨rfl, b11⟩
              have H11 := hid (H10.out.trans (b11.mono H10.out.size))
              clear b11 H10 hcell hd3 hd4 hix
              go_wp2
              go_roundw
              case rel => exact ⟨j + 1, m + 1, by omega, by omega, by go_num, by go_num, by rw [Nat.add_sub_cancel, HNL.out], H11.out⟩
              case measure => simp [intOf]; omega
            | false =>
              obtain ⟨hat, hnl⟩ := sl2 hper
              have KGj : Hid (∀ w, Calls Try.prog 38 #[.string s, .int .i64 j] w fun e w' => e = .returned (.bool false) ∧ Below w.heap.size w w') := hid (fun w => by have := KG.out j w hj1 hlt2; rwa [hper] at this)
              have HNL := hid hnl
              have HAT := hid hat
              clear sl1 sl2 hper hat hnl
              go_wp2_with fail
              refine (KGj.out _).mono ?_
              rintro e w10 ⟨rfl, b10⟩
              have H10 := hid (HR.out.trans (b10.mono HR.out.size))
              clear b10
              by_cases hml : m < (B.sel (B.per (B.byt N)) k).length
              · obtain ⟨bb, off, rfl, hcell⟩ := (HRL.out.stays (H59.out.trans (H10.out.mono H59.out.size))) m hml
                have hvj := HAT.out _ (List.getElem?_eq_getElem hml)
                have hix : (0 : Int) ≤ (m : Int) ∧ (m : Int) < ((B.sel (B.per (B.byt N)) k).length : Int) := by omega
                have hd3 : decide ((m : Int) < ((B.sel (B.per (B.byt N)) k).length : Int)) = true := decide_eq_true (by omega)
                have hd4 : (m : Int) < ((B.sel (B.per (B.byt N)) k).length : Int) := by omega
                generalize (B.sel (B.per (B.byt N)) k)[m] = v at *
                have hvj2 : (v == (j : Int)) = false := by simpa using hvj
                clear hvj
                go_wp2_with fail
                refine (KGj.out _).mono ?_
                rintro e w11 ⟨rfl, b11⟩
                have H11 := hid (H10.out.trans (b11.mono H10.out.size))
                clear b11 H10 hcell hd3 hd4 hix
                go_wp2
                go_roundw
                case rel => exact ⟨j + 1, m, by omega, by omega, by go_num, rfl, by rw [Nat.add_sub_cancel, HNL.out], H11.out⟩
                case measure => simp [intOf]; omega
              · have hd3 : decide ((m : Int) < ((B.sel (B.per (B.byt N)) k).length : Int)) = false := decide_eq_false (by omega)
                have hd4 : ¬ (m : Int) < ((B.sel (B.per (B.byt N)) k).length : Int) := by omega
                go_wp2_with fail
                refine (KGj.out _).mono ?_
                rintro e w11 ⟨rfl, b11⟩
                have H11 := hid (H10.out.trans (b11.mono H10.out.size))
                clear b11 H10 hd3 hd4
                go_wp2
                go_roundw
                case rel => exact ⟨j + 1, m, by omega, by omega, by go_num, rfl, by rw [Nat.add_sub_cancel, HNL.out], H11.out⟩
                case measure => simp [intOf]; omega
          · have hje : j = k + 1 := by omega
            subst hje
            have hmL : m = (B.sel (B.per (B.byt N)) k).length := HMJ.out
            clear HSEL HEND HMJ hlt2 hj1 hj2
            have H10 := hid (H9.out.trans (HR.out.mono H9.out.size))
            have H5r := hid (H59.out.trans (HR.out.mono H59.out.size))
            clear H9 H59 HR
            go_wp2_with fail
            generalize wr = wq at *
            go_loopg [17] k (fun gg y wr => ∃ j : Nat, j ≤ k ∧ gg = k - j ∧ y = .string (B.str (B.obn h N j)) ∧ wr.heap[wq.heap.size]? = some (.stringIter s j) ∧ Below wq.heap.size wq wr)
            case atStart => exact ⟨0, Nat.zero_le _, rfl, rfl, World.iter_heap _ _ _, below_iter _ _ _⟩
            case round =>
              obtain ⟨j, hjk, rfl, rfl, hit, hbel⟩ := hrel
              have HB := hid hbel
              clear hbel
              by_cases hlt3 : j < k
              · have hks : j < s.size := by omega
                obtain ⟨c, hc1, hc2, hc3⟩ := HBY.out j hlt3
                obtain ⟨xb, hxb⟩ : ∃ x : UInt8, x = UInt8.ofNat (97 + h c % 5) := ⟨_, rfl⟩
                have hOB := B.obn_succ h N j c hc1
                rw [← hxb] at hOB
                have HOB := hid hOB
                have hix : (0 : Int) ≤ (j : Int) ∧ (j : Int) < (s.size : Int) := by omega
                have hsub : ((s[j]'hks).toNat : Int) - 97 = (c : Int) := by omega
                have hixc : (0 : Int) ≤ (c : Int) ∧ (c : Int) < 24 := by omega
                have hwc : IntKind.i64.wrap (((s[j]'hks).toNat : Nat) : Int) = ((s[j]'hks).toNat : Int) := IntWalk.i64_in _ (by omega)
                have hnx : ∀ ty, (Instr.next (.pointer (some ⟨wq.heap.size, 0, none⟩)) true ty).run Try.prog wr = _ := fun ty => Lib.run_next_ascii_at wr wq.heap.size s j ty hit hks (by omega)
                have hit2 := Lib.iterAt_heap wr wq.heap.size s j (j + 1) hit
                have hb2 := Lib.below_iterAt HB.out (Nat.le_refl _) s (j + 1)
                generalize wr.iterAt wq.heap.size s (j + 1) = wj at *
                have hhm : h c % 5 < 5 := Nat.mod_lt _ (by decide)
                have HIT := hid hit2
                have HBJ := hid hb2
                have H2j := H10.out.trans (hb2.mono H10.out.size)
                have kc := (HX2.out.stays H2j) c hc2
                have hhc := hh c
                have hcv := B.one_byte wj (97 + ((h c : Nat) : Int) % 5) xb (by rw [hxb, UInt8.toNat_ofNat']; omega)
                have hol : (B.str (B.obn h N j)).size = j := by rw [B.str_size]; unfold B.obn; rw [List.length_map, List.length_take]; have := HLEN.out; omega
                have hnc : ¬ (9223372036854775807 < (B.str (B.obn h N j)).size + ByteArray.size ⟨#[xb]⟩) := by rw [hol]; show ¬ (_ < j + 1); omega
                have hltj : wq.heap.size < wj.heap.size := (Array.getElem?_eq_some_iff.1 hit2).1
                have hab : Below wj.heap.size wj (wj.alloc (.cells #[.int .u8 (97 + ((h c : Nat) : Int) % 5)] 5)) := (Below.refl _ wj).alloc (Nat.le_refl _) _
                have HAB := hid hab
                have HIT2 := hid ((hab.block _ hltj).trans hit2)
                clear hc1 hc3 hOB hit hit2 hb2 H2j HB hltj hab hxb
                go_wp2
                go_roundg (k - (j + 1))
                case measure => omega
                case rel => exact ⟨j + 1, by omega, rfl, by rw [HOB.out], HIT2.out, HBJ.out.trans (HAB.out.mono HBJ.out.size)⟩
              · have hje : j = k := by omega
                subst hje
                have hnx : ∀ ty, (Instr.next (.pointer (some ⟨wq.heap.size, 0, none⟩)) true ty).run Try.prog wr = _ := fun ty => Lib.run_next_end_at wr wq.heap.size s j ty hit (by omega)
                have H11 := hid (H10.out.trans (HB.out.mono H10.out.size))
                have H5s := hid (H5r.out.trans (HB.out.mono H5r.out.size))
                clear hit HB H10 H5r
                have hOF : B.obn h N j = N.map (fun c => UInt8.ofNat (97 + h c % 5)) := by unfold B.obn; rw [List.take_of_length_le (by have := HLEN.out; omega)]
                have hol : (B.obn h N j).length = j := by rw [hOF, List.length_map]; exact HLEN.out
                have hos : (B.str (B.obn h N j)).size = j := by rw [B.str_size, hol]
                have KPo := hid (fun w => periods_any (B.str (B.obn h N j)) w (by rw [hos]; unfold maxLen; omega))
                have hck : B.chk (B.str (B.obn h N j)) = 0 := by
                  rw [hOF]
                  exact B.chk_names (N := N) (fun c => UInt8.ofNat (97 + h c % 5)) (by have := HLEN.out; omega) (by have := HLEN.out; omega) (fun x _ => by
                    have := Nat.mod_lt (h x) (show 0 < 5 by decide)
                    simp only [UInt8.toNat_ofNat']
                    omega)
                have hVo : B.periodsV (B.str (B.obn h N j)) = (B.sel (B.per (B.obn h N j)) j, 0) := by
                  unfold B.periodsV
                  rw [if_pos hck, hos]
                  rfl
                rw [hVo] at KPo
                have hin : ∀ x : Nat, 1 ≤ x → x ≤ j → B.per (B.byt N) x = true → decide ((x : Int) ∈ B.sel (B.per (B.obn h N j)) j) = true := fun x h1 h2 h3 => by
                  rw [decide_eq_true_eq, B.sel_in]
                  refine ⟨x, rfl, h1, h2, ?_⟩
                  rw [hOF]
                  exact B.per_names h3 HFI.out.lt _
                have Hp := hid (hin p hp1.1 hp1.2 HPP.out)
                have Hq := hid (hin q hq1.1 hq1.2 HPQ.out)
                have Hg := hid (fun hx : p + q ≤ j + g => hin g hg1.1 hg1.2 (HPG.out hx))
                have hPl : (B.sel (B.per (B.obn h N j)) j).length ≤ 1000 := by have := B.sel_len (B.per (B.obn h N j)) j; omega
                clear hin hVo hck hos hol hOF
                generalize B.sel (B.per (B.obn h N j)) j = PM at *
                have KH := hid (fun bc a c (x : Int) w h1 h2 => has_any bc a c PM x w hPl h1 h2)
                go_wp2_with fail
                refine (KPo.out _).mono ?_
                rintro e w12 ⟨aM, cM, rfl, rM, b12⟩
                have H12 := hid (H11.out.trans (b12.mono H11.out.size))
                clear b12 H11 KPo
                have hab : Below w12.heap.size w12 (w12.alloc (.cells #[.slice aM PM.length cM] 23)) := (Below.refl _ w12).alloc (Nat.le_refl _) _
                have hcl : (w12.alloc (.cells #[.slice aM PM.length cM] 23)).cell? ⟨w12.heap.size, 0, none⟩ = some (.slice aM PM.length cM) := by rw [World.cell?_alloc_at _ _ _ _ rfl]; rfl
                have HRM := hid (rM.stays hab)
                have H13 := hid (H12.out.trans (hab.mono H12.out.size))
                have HCL := hid hcl
                clear rM hab H12 hcl
                go_wp2_with fail
                generalize w12.alloc (.cells #[.slice aM PM.length cM] 23) = w13 at *
                generalize w12.heap.size = bc at *
                refine (KH.out bc aM cM p w13 HCL.out HRM.out).mono ?_
                rintro e w14 ⟨rfl, hw14⟩
                rw [Hp.out, hw14]
                clear hw14 w14
                go_wp2_with fail
                refine (KH.out bc aM cM q w13 HCL.out HRM.out).mono ?_
                rintro e w14 ⟨rfl, hw14⟩
                rw [Hq.out, hw14]
                clear hw14 w14
                have H14 := hid (HB2.out.trans (H13.out.mono HB2.out.size))
                have KW := hid (works_any w13 (HM.out.stays H14.out))
                by_cases hx : p + q ≤ j + g
                · have hd2 : decide ((j : Int) < (p : Int) + (q : Int) - (g : Int)) = false := decide_eq_false (by omega)
                  have hd2' : ¬ ((j : Int) < (p : Int) + (q : Int) - (g : Int)) := by omega
                  have HG := hid (Hg.out hx)
                  clear hx
                  go_wp2_with fail
                  refine (KH.out bc aM cM g w13 HCL.out HRM.out).mono ?_
                  rintro e w14 ⟨rfl, hw14⟩
                  rw [HG.out, hw14]
                  clear hw14 w14
                  go_wp2_with fail
                  refine KW.out.mono ?_
                  rintro e w15 ⟨rfl, b15⟩
                  have H15 := hid (H14.out.trans (b15.mono H14.out.size))
                  clear b15
                  go_wp2
                  go_ret
                  exact ⟨rfl, H15.out⟩
                · have hd2 : decide ((j : Int) < (p : Int) + (q : Int) - (g : Int)) = true := decide_eq_true (by omega)
                  have hd2' : (j : Int) < (p : Int) + (q : Int) - (g : Int) := by omega
                  clear hx
                  go_wp2_with fail
                  refine KW.out.mono ?_
                  rintro e w15 ⟨rfl, b15⟩
                  have H15 := hid (H14.out.trans (b15.mono H14.out.size))
                  clear b15
                  go_wp2
                  go_ret
                  exact ⟨rfl, H15.out⟩
end Go.Proofs.Ytiodcgdjphmffaa
