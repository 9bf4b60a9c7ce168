/- The law's walk: CrossPairs. -/
import Derived.Test.YthaoacnaeafbeaaXWrk
import Derived.Test.YthaoacnaeafbeaaXRTw
import Derived.Test.YthaoacnaeafbeaaXSrt
namespace Go.Proofs.Ythaoacnaeafbeaa
open Go.RowKit

theorem X.twV_form (l : List Int) : ∃ (p r : Nat × Nat) (er : Int), X.twV l = .tuple #[X.pv p, X.pv r, .int .i64 er] := by
  unfold X.twV X.ret2
  split
  · exact ⟨_, _, _, rfl⟩
  · exact ⟨_, _, _, rfl⟩
theorem X.numbers_s (a1 a2 : Option Addr) (c1 c2 : Nat) (l : List Int) (w : World) (hl : l.length ≤ 1000) (h1 : RdI w a1 l) (h2 : RdI w a2 l) :
    Calls Try.prog 22 #[.slice a1 l.length c1, .slice a2 l.length c2] w fun e w' => e = .returned (.bool true) ∧ Below w.heap.size w w' :=
  (numbers_q a1 a2 c1 c2 l l w hl hl h1 h2).mono fun e w' ⟨h, n, hn⟩ => ⟨by rw [h, decide_eq_true rfl], by rw [hn]; exact below_drewN (Below.refl _ _) _⟩
theorem X.sifted_len {l : List Int} {b : Bool} : (if X.chk l = 0 then X.sf l b (X.lng l) else []).length ≤ 1000 := by
  split
  · rename_i h
    have hok := X.chk_zero.1 h
    have h1 := X.sf_len l b (X.lng l)
    have h2 := hok.up.hi (l.length - 1) (by have := hok.two; omega)
    have h3 := hok.up.lo 0 (by have := hok.two; omega)
    unfold X.lng at h1 ⊢
    omega
  · simp

set_option maxHeartbeats 8000000 in
set_option maxRecDepth 100000 in
theorem crossPairs_any (a : Option Addr) (c : Nat) (l : List Int) (w : World) (hm : l.length ≤ maxLen) (hl : RdI w a l) :
    Calls Try.prog 3 #[.slice a l.length c] w fun e w' => e = .returned (.bool true) ∧ Below w.heap.size w w' := by
  have hmm := hm
  unfold maxLen at hmm
  have HWK := hid (fun W => works_any W)
  by_cases h40 : 40 < l.length
  · have h40' : decide ((40 : Int) < (l.length : Int)) = true := by simp; omega
    clear hl
    go_enter Try.func3, Try.ntmps3
    go_wp2_with fail
    refine (HWK.out w).mono ?_
    rintro e w1 ⟨rfl, hb⟩
    have HB := hid hb
    clear hb
    go_wp2
    go_ret
    exact ⟨rfl, HB.out⟩
  have h40' : decide ((40 : Int) < (l.length : Int)) = false := by simp; omega
  have HA := hid (twice_any a c l w hm hl)
  have HR := hid (fun W (h : Below w.heap.size w W) => refTwice_any a c l W hm (hl.stays h))
  have HD := hid (fun W (h : Below w.heap.size w W) => distances_any a c l W hm (hl.stays h))
  have HRD := hid (fun W (h : Below w.heap.size w W) => refDistances_any a c l W hm (hl.stays h))
  have HM := hid (fun W (h : Below w.heap.size w W) => missing_any a c l W hm (hl.stays h))
  have HRM := hid (fun W (h : Below w.heap.size w W) => refMissing_any a c l W hm (hl.stays h))
  have HC := hid (fun W (h : Below w.heap.size w W) => check_any a c l W hm (hl.stays h))
  have HRC := hid (fun W (h : Below w.heap.size w W) => refCheck_any a c l W hm (hl.stays h))
  have HL1 := hid (X.sifted_len (l := l) (b := true))
  have HL2 := hid (X.sifted_len (l := l) (b := false))
  obtain ⟨p, r, er, hv⟩ := X.twV_form l
  rw [hv] at HA HR
  obtain ⟨p1, p2⟩ := p
  obtain ⟨r1, r2⟩ := r
  unfold X.pv at HA HR
  dsimp only at HA HR
  clear hl hv h40
  generalize (if X.chk l = 0 then X.sf l true (X.lng l) else []) = D at *
  generalize (if X.chk l = 0 then X.sf l false (X.lng l) else []) = M at *
  generalize X.chk l = z at *
  go_enter Try.func3, Try.ntmps3
  go_wp2_with fail
  refine HA.out.mono ?_
  rintro e w3 ⟨rfl, hb3⟩
  obtain ⟨W4, W5, hW4, hW5, hb5, A1, A2, y0, y1, y2, y3, f0, f1, n1, n2, s45⟩ := X.put2 w3 (p1, p2) (r1, r2)
  dsimp only at hW5
  have HB5 := hid (hb3.trans (hb5.mono hb3.size))
  go_wp2_with fail
  try rw [hW4]
  try rw [hW5]
  clear hW4 hW5 y0 y1 y2 y3 f0 f1 n1 n2 s45 hb5 hb3
  refine (HR.out _ HB5.out).mono ?_
  rintro e w6 ⟨rfl, hb6⟩
  have HB6 := hid (HB5.out.trans (hb6.mono HB5.out.size))
  replace A1 := A1.of_block (hb6.block _ A1.lt)
  replace A2 := A2.of_block (hb6.block _ A2.lt)
  obtain ⟨W7, W8, hW4, hW5, hb8, B1, B2, y0, y1, y2, y3, f0, f1, n1, n2, s45⟩ := X.put2 w6 (p1, p2) (r1, r2)
  dsimp only at hW5
  have HB8 := hid (HB6.out.trans (hb8.mono HB6.out.size))
  replace A1 := A1.of_block (hb8.block _ A1.lt)
  replace A2 := A2.of_block (hb8.block _ A2.lt)
  go_wp2_with fail
  try rw [hW4]
  try rw [hW5]
  clear hW4 hW5 y0 y1 y2 y3 f0 f1 n1 n2 s45 hb6 hb8
  refine (HD.out _ HB8.out).mono ?_
  rintro e w9 ⟨d1, k1, rfl, D1, hb⟩
  have HB9 := hid (HB8.out.trans (hb.mono HB8.out.size))
  replace A1 := A1.of_block (hb.block _ A1.lt)
  replace A2 := A2.of_block (hb.block _ A2.lt)
  replace B1 := B1.of_block (hb.block _ B1.lt)
  replace B2 := B2.of_block (hb.block _ B2.lt)
  clear hb
  go_wp2_with fail
  refine (HRD.out _ HB9.out).mono ?_
  rintro e w10 ⟨d2, k2, rfl, D2, hb⟩
  have HB10 := hid (HB9.out.trans (hb.mono HB9.out.size))
  replace A1 := A1.of_block (hb.block _ A1.lt)
  replace A2 := A2.of_block (hb.block _ A2.lt)
  replace B1 := B1.of_block (hb.block _ B1.lt)
  replace B2 := B2.of_block (hb.block _ B2.lt)
  replace D1 := D1.stays hb
  clear hb
  go_wp2_with fail
  refine (HM.out _ HB10.out).mono ?_
  rintro e w11 ⟨d3, k3, rfl, D3, hb⟩
  have HB11 := hid (HB10.out.trans (hb.mono HB10.out.size))
  replace A1 := A1.of_block (hb.block _ A1.lt)
  replace A2 := A2.of_block (hb.block _ A2.lt)
  replace B1 := B1.of_block (hb.block _ B1.lt)
  replace B2 := B2.of_block (hb.block _ B2.lt)
  replace D1 := D1.stays hb
  replace D2 := D2.stays hb
  clear hb
  go_wp2_with fail
  refine (HRM.out _ HB11.out).mono ?_
  rintro e w12 ⟨d4, k4, rfl, D4, hb⟩
  have HB12 := hid (HB11.out.trans (hb.mono HB11.out.size))
  replace A1 := A1.of_block (hb.block _ A1.lt)
  replace A2 := A2.of_block (hb.block _ A2.lt)
  replace B1 := B1.of_block (hb.block _ B1.lt)
  replace B2 := B2.of_block (hb.block _ B2.lt)
  replace D1 := D1.stays hb
  replace D2 := D2.stays hb
  replace D3 := D3.stays hb
  clear hb
  have za0 := A1.cell0
  have za1 := A1.cell1
  have za2 := A2.cell0
  have za3 := A2.cell1
  have zb0 := B1.cell0
  have zb1 := B1.cell1
  have zb2 := B2.cell0
  have zb3 := B2.cell1
  have q1 := fun W' => X.eqIn (p1 : Nat) (p2 : Nat) (p1 : Nat) (p2 : Nat) W'
  have q2 := fun W' => X.eqIn (r1 : Nat) (r2 : Nat) (r1 : Nat) (r2 : Nat) W'
  simp only [BEq.rfl, Bool.and_true] at q1 q2
  have hee : (er == er) = true := by simp
  have hzz : (z == z) = true := by simp
  have HN1 := hid (X.numbers_s d1 d2 k1 k2 D w12 HL1.out D1 D2)
  clear A1 A2 B1 B2 D1 D2
  dsimp only at za0 za1 za2 za3 zb0 zb1 zb2 zb3
  go_wp2_with fail
  refine HN1.out.mono ?_
  rintro e w13 ⟨rfl, hb⟩
  have HB13 := hid (HB12.out.trans (hb.mono HB12.out.size))
  have HN2 := hid (X.numbers_s d3 d4 k3 k4 M w13 HL2.out (D3.stays hb) (D4.stays hb))
  clear hb za0 za1 za2 za3 zb0 zb1 zb2 zb3 D3 D4 HN1
  go_wp2_with fail
  refine HN2.out.mono ?_
  rintro e w14 ⟨rfl, hb⟩
  have HB14 := hid (HB13.out.trans (hb.mono HB13.out.size))
  clear hb HN2
  go_wp2_with fail
  refine (HC.out _ HB14.out).mono ?_
  rintro e w15 ⟨rfl, rfl⟩
  go_wp2_with fail
  refine (HRC.out _ HB14.out).mono ?_
  rintro e w16 ⟨rfl, hb⟩
  have HB16 := hid (HB14.out.trans (hb.mono HB14.out.size))
  clear hb
  go_wp2_with fail
  refine (HWK.out _).mono ?_
  rintro e w17 ⟨rfl, hb⟩
  have HB17 := hid (HB16.out.trans (hb.mono HB16.out.size))
  clear hb
  go_wp2
  go_ret
  exact ⟨rfl, HB17.out⟩
end Go.Proofs.Ythaoacnaeafbeaa
