/- Package ink: the walk of Ever. -/
import Derived.Test.YtapndndbibgjoaaIEverM
import Derived.Test.YtapndndbibgjoaaIClosed
namespace Go.Proofs.Ytapndndbibgjoaa
open Go.RowKit

set_option maxHeartbeats 2000000 in
set_option maxRecDepth 100000 in
theorem ever_any (n : Int) (a : Option Addr) (c : Nat) (T : List (List Int)) (w : World) (hm : T.length ≤ maxLen) (hT : RdM w a T) :
    Calls Try.prog 29 #[K.pal n a T.length c] w fun e w' => ∃ r cr xs, e = .returned (.tuple #[.slice r xs.length cr, .int .i64 (K.check n T)]) ∧ (K.check n T ≠ 0 → xs = []) ∧ (K.check n T = 0 → ∃ g, K.Ever n.toNat T g ∧ xs = K.list g) ∧ xs.length ≤ cr ∧ RdI w' r xs ∧ Below w.heap.size w w' := by
  have hb0 : Below w.heap.size w (w.alloc (.cells #[.int .i64 n, .slice a T.length c] 24)) := (Below.refl _ _).alloc (Nat.le_refl _) _
  have k0 : (w.alloc (.cells #[.int .i64 n, .slice a T.length c] 24)).cell? ⟨w.heap.size, 0, none⟩ = some (.int .i64 n) := by rw [World.cell?_alloc_at _ _ _ _ rfl]; rfl
  have k1 : (w.alloc (.cells #[.int .i64 n, .slice a T.length c] 24)).cell? ⟨w.heap.size, 1, none⟩ = some (.slice a T.length c) := by rw [World.cell?_alloc_at _ _ _ _ rfl]; rfl
  have HB0 := hid hb0
  have HK0 := hid k0
  have HK1 := hid k1
  have HT := hid (hT.stays hb0)
  have HC := hid (inkCheck_any n a c T _ hm (hT.stays hb0))
  clear hb0 hT
  unfold K.pal at HC ⊢
  by_cases h0 : K.check n T = 0
  · have hg := K.good_of h0
    have hn7 : n.toNat ≤ 7 := by have := hg.hi; omega
    have hn1 : 1 ≤ n.toNat := by have := hg.lo; omega
    rw [h0] at HC ⊢
    have HI := hid (fun W hx => inksOf_any n a c T W hg hx)
    have HG := hid hg
    unfold K.pal at HI
    clear hg h0
    go_enter Try.func29, Try.ntmps29
    go_wp2_with fail
    generalize w.alloc (.cells #[.int .i64 n, .slice a T.length c] 24) = w1 at *
    refine HC.out.mono ?_
    rintro e w2 ⟨rfl, hb⟩
    have q0 := cell_stays hb (Nat.le_refl _) HK0.out
    have q1 := cell_stays hb (Nat.le_refl _) HK1.out
    have HT2 := hid (HT.out.stays hb)
    have HB2 := hid (HB0.out.trans (hb.mono HB0.out.size))
    clear hb HC k0 k1
    go_wp2_with fail
    refine (HI.out _ HT2.out).mono ?_
    rintro e w3 ⟨r, cr, rfl, hcr, hv, hb⟩
    have HV := hid hv
    have HB3 := hid (HB2.out.trans (hb.mono HB2.out.size))
    clear hb HI hv q0 q1 HT HT2
    go_wp2_with fail
    go_loopw [6] (fun v wr => ∃ g : Nat, v = .int .u8 g ∧ g < 2 ^ n.toNat ∧ g.testBit 0 = true ∧ (∀ C, C.testBit 0 = true → K.Closed T C → K.Sub g C) ∧ Below w3.heap.size w3 wr) (fun v _ => 128 - (intOf v).toNat)
    case atStart => exact ⟨1, rfl, Nat.one_lt_two_pow (by omega), rfl, fun C hC _ => K.one_sub hC, Below.refl _ _⟩
    case round =>
      obtain ⟨g, rfl, hg2, hbit, hleast, hb⟩ := hrel
      have HB := hid hb
      have HLE := hid hleast
      have HG2 := hid hg2
      have HBI := hid hbit
      have hg7 := K.lt_128 hg2 hn7
      have HCL := hid (closed_any n g r cr T wr HG.out hg2 hbit (HV.out.stays hb))
      clear hb hleast
      by_cases hcl : K.grown T g = g
      · rw [decide_eq_true hcl] at HCL
        have HE : Hid (K.Ever n.toNat T g) := hid ⟨hg2, hbit, (K.closed_iff hg7).1 hcl, HLE.out⟩
        have HL := hid (fun W => setList_any g W hg7)
        clear hcl hbit hg2
        go_wp2_with fail
        refine HCL.out.mono ?_
        rintro e w4 ⟨rfl, hb4⟩
        have HB4 := hid (HB.out.trans (hb4.mono HB.out.size))
        clear hb4 HCL HB
        go_wp2_with fail
        refine (HL.out _).mono ?_
        rintro e w5 ⟨r5, c5, rfl, hc5, hr5, hb5⟩
        have HR5 := hid hr5
        have HB5 := hid (HB3.out.trans ((HB4.out.trans (hb5.mono HB4.out.size)).mono HB3.out.size))
        clear hr5 hb5 HL
        go_wp2
        go_ret2
        exact ⟨r5, c5, K.list g, rfl, fun h => absurd rfl h, fun _ => ⟨g, HE.out, rfl⟩, hc5, HR5.out, HB5.out⟩
      · rw [decide_eq_false hcl] at HCL
        have hsub := K.grown_sub T g
        have hle := hsub.le
        have hlt2 : K.grown T g < 2 ^ n.toNat := by have := K.grown_lt HG.out hg2 T.length (Nat.le_refl _); rwa [List.take_length] at this
        have hgr7 := K.lt_128 hlt2 hn7
        have HLE2 : Hid (∀ C, C.testBit 0 = true → K.Closed T C → K.Sub (K.grown T g) C) := hid (fun C h1 h2 => K.grown_in (HLE.out C h1 h2) (fun r hr => K.addL_in hg7 (HLE.out C h1 h2) ((h2 r hr).mono (HLE.out C h1 h2))))
        have HLT2 := hid hlt2
        have HBI2 := hid (K.grown_bit (T := T) hbit)
        have HGR := hid (fun W hx => grown_any n g r cr T W HG.out hg2 hbit hx)
        have hlt3 : g < K.grown T g := by omega
        clear hcl hbit hg2 hlt2 hsub hle
        generalize K.grown T g = g2 at *
        go_wp2_with fail
        refine HCL.out.mono ?_
        rintro e w4 ⟨rfl, hb4⟩
        have HB4 := hid (HB.out.trans (hb4.mono HB.out.size))
        have HV4 := hid (HV.out.stays HB4.out)
        clear hb4 HCL HB
        go_wp2_with fail
        refine (HGR.out _ HV4.out).mono ?_
        rintro e w5 ⟨rfl, hb5⟩
        have HB5 := hid (HB4.out.trans (hb5.mono HB4.out.size))
        clear hb5 HGR
        go_wp2
        go_roundw
        case rel => exact ⟨g2, rfl, HLT2.out, HBI2.out, HLE2.out, HB5.out⟩
        case measure => simp [intOf]; omega
  · have h0b : (K.check n T == 0) = false := by simpa using h0
    have HN := hid h0
    generalize K.check n T = q at *
    clear h0
    go_enter Try.func29, Try.ntmps29
    go_wp2_with fail
    generalize w.alloc (.cells #[.int .i64 n, .slice a T.length c] 24) = w1 at *
    refine HC.out.mono ?_
    rintro e w2 ⟨rfl, hb⟩
    have HB2 := hid (HB0.out.trans (hb.mono HB0.out.size))
    clear hb HC k0 k1
    go_wp2
    go_ret2
    exact ⟨none, 0, [], rfl, fun _ => rfl, fun h => absurd h HN.out, Nat.le_refl _, RdI.nil _ _, HB2.out⟩
end Go.Proofs.Ytapndndbibgjoaa
