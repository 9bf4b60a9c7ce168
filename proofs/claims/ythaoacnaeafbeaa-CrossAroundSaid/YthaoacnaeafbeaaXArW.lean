/- The law's walk: CrossAround. -/
import Derived.Test.YthaoacnaeafbeaaXWrk
import Derived.Test.YthaoacnaeafbeaaXRAr
namespace Go.Proofs.Ythaoacnaeafbeaa
open Go.RowKit

theorem X.arV_form (l : List Int) (sz : Int) : ∃ (p r : Nat × Nat) (er : Int), X.arV l sz = .tuple #[X.pv p, X.pv r, .int .i64 er] := by
  unfold X.arV X.ret2
  split
  · split
    · exact ⟨_, _, _, rfl⟩
    · exact ⟨_, _, _, rfl⟩
  · exact ⟨_, _, _, rfl⟩
set_option maxHeartbeats 4000000 in
set_option maxRecDepth 100000 in
theorem crossAround_any (a : Option Addr) (c : Nat) (l : List Int) (sz : Int) (w : World) (hm : l.length ≤ maxLen) (hl : RdI w a l) :
    Calls Try.prog 7 #[.slice a l.length c, .int .i64 sz] w fun e w' => e = .returned (.bool true) ∧ Below w.heap.size w w' := by
  have hmm := hm
  unfold maxLen at hmm
  have HWK := hid (fun W => works_any W)
  by_cases h40 : 40 < l.length
  · have h40' : decide ((40 : Int) < (l.length : Int)) = true := by simp; omega
    clear hl
    go_enter Try.func7, Try.ntmps7
    go_wp2_with fail
    refine (HWK.out w).mono ?_
    rintro e w1 ⟨rfl, hb⟩
    have HB := hid hb
    clear hb
    go_wp2
    go_ret
    exact ⟨rfl, HB.out⟩
  have h40' : decide ((40 : Int) < (l.length : Int)) = false := by simp; omega
  have HA := hid (around_any a c l sz w hm hl)
  have HR := hid (fun W (h : Below w.heap.size w W) => refAround_any a c l sz W hm (hl.stays h))
  obtain ⟨p, r, er, hv⟩ := X.arV_form l sz
  rw [hv] at HA HR
  obtain ⟨p1, p2⟩ := p
  obtain ⟨r1, r2⟩ := r
  unfold X.pv at HA HR
  dsimp only at HA HR
  clear hl hv h40
  go_enter Try.func7, Try.ntmps7
  go_wp2_with fail
  refine HA.out.mono ?_
  rintro e w3 ⟨rfl, hb3⟩
  obtain ⟨W4, W5, hW4, hW5, hb5, A1, A2, y0, y1, y2, y3, f0, f1, n1, n2, s45⟩ := X.put2 w3 (p1, p2) (r1, r2)
  dsimp only at hW5
  have HB5 := hid (hb3.trans (hb5.mono hb3.size))
  go_wp2_with fail
  try rw [hW4]
  try rw [hW5]
  clear hW4 hW5 y0 y1 y2 y3 f0 f1 n1 n2 s45 hb5 hb3
  refine (HR.out _ HB5.out).mono ?_
  rintro e w6 ⟨rfl, hb6⟩
  have HB6 := hid (HB5.out.trans (hb6.mono HB5.out.size))
  replace A1 := A1.of_block (hb6.block _ A1.lt)
  replace A2 := A2.of_block (hb6.block _ A2.lt)
  obtain ⟨W7, W8, hW4, hW5, hb8, B1, B2, y0, y1, y2, y3, f0, f1, n1, n2, s45⟩ := X.put2 w6 (p1, p2) (r1, r2)
  dsimp only at hW5
  have HB8 := hid (HB6.out.trans (hb8.mono HB6.out.size))
  replace A1 := A1.of_block (hb8.block _ A1.lt)
  replace A2 := A2.of_block (hb8.block _ A2.lt)
  have za0 := A1.cell0
  have za1 := A1.cell1
  have za2 := A2.cell0
  have za3 := A2.cell1
  have zb0 := B1.cell0
  have zb1 := B1.cell1
  have zb2 := B2.cell0
  have zb3 := B2.cell1
  have q1 := fun W' => X.eqIn (p1 : Nat) (p2 : Nat) (p1 : Nat) (p2 : Nat) W'
  have q2 := fun W' => X.eqIn (r1 : Nat) (r2 : Nat) (r1 : Nat) (r2 : Nat) W'
  simp only [BEq.rfl, Bool.and_true] at q1 q2
  have hee : (er == er) = true := by simp
  clear A1 A2 B1 B2 hb6 hb8
  dsimp only at za0 za1 za2 za3 zb0 zb1 zb2 zb3
  go_wp2_with fail
  try rw [hW4]
  try rw [hW5]
  refine (HWK.out _).mono ?_
  rintro e w9 ⟨rfl, hb9⟩
  have HB9 := hid (HB8.out.trans (hb9.mono HB8.out.size))
  clear hb9
  go_wp2
  go_ret
  exact ⟨rfl, HB9.out⟩
end Go.Proofs.Ythaoacnaeafbeaa
