/- Package ink: the walks of stonesOf, gives and Gives, and of the reference's. -/
import Derived.Test.YtapndndbibgjoaaISeq
import Derived.Test.YtapndndbibgjoaaIClosed
import Derived.Test.YtapndndbibgjoaaIRAdd
import Derived.Deep.RegionHeld3
namespace Go.Proofs.Ytapndndbibgjoaa
open Go.RowKit

/-- The rows of some stones. -/
def K.rowsOf (T : List (List Int)) (l : List Int) : List (List Int) := l.map fun x => T.getD x.toNat []

theorem K.Good.rows {n : Int} {T : List (List Int)} (h : K.Good n T) : ∀ r ∈ T, K.Row n.toNat r := fun r hr => by
  obtain ⟨k, hk, rfl⟩ := List.getElem_of_mem hr
  exact h.row hk
theorem K.rowsOf_rows {n : Int} {T : List (List Int)} {l : List Int} (h : K.Good n T) (hl : ∀ x ∈ l, 0 ≤ x ∧ x < T.length) : ∀ r ∈ K.rowsOf T l, K.Row n.toNat r := fun r hr => by
  unfold K.rowsOf at hr
  obtain ⟨x, hx, rfl⟩ := List.mem_map.1 hr
  have := hl x hx
  have hk : x.toNat < T.length := by omega
  simp only [List.getD, List.getElem?_eq_getElem hk, Option.getD_some]
  exact h.row hk
theorem K.rowsOf_at {T : List (List Int)} {l : List Int} {k j : Nat} (hk : k < l.length) (hj : j < T.length) (e : l[k] = (j : Int)) : K.rowsOf T (l.take (k + 1)) = K.rowsOf T (l.take k) ++ [T[j]] := by
  unfold K.rowsOf
  rw [List.take_succ_eq_append_getElem hk, List.map_append, e]
  simp [List.getD, List.getElem?_eq_getElem hj]
theorem K.rowsOf_length (T : List (List Int)) (l : List Int) : (K.rowsOf T l).length = l.length := by unfold K.rowsOf; rw [List.length_map]
theorem K.seq_snoc (R : List (List Int)) (r : List Int) (s : Nat) : K.seq (R ++ [r]) s = K.addL r (K.seq R s) := by unfold K.seq; rw [List.foldl_append]; rfl
theorem K.one_lt {n : Nat} (h : 1 ≤ n) : 1 < 2 ^ n := Nat.one_lt_two_pow (by omega)

set_option maxHeartbeats 2000000 in
set_option maxRecDepth 100000 in
theorem stonesOf_any (n : Int) (a al : Option Addr) (c cl : Nat) (T : List (List Int)) (l : List Int) (w : World) (hg : K.Good n T) (hin : ∀ x ∈ l, 0 ≤ x ∧ x < T.length) (hml : l.length ≤ 12) (hT : RdM w a T) (hl : RdI w al l) :
    Calls Try.prog 57 #[K.pal n a T.length c, .slice al l.length cl] w fun e w' => ∃ r cr, e = .returned (.slice r (K.rowsOf T l).length cr) ∧ (K.rowsOf T l).length ≤ cr ∧ RdV w' r ((K.rowsOf T l).map K.ink) ∧ Below w.heap.size w w' := by
  have hb0 : Below w.heap.size w (w.alloc (.cells #[.int .i64 n, .slice a T.length c] 24)) := (Below.refl _ _).alloc (Nat.le_refl _) _
  have k0 : (w.alloc (.cells #[.int .i64 n, .slice a T.length c] 24)).cell? ⟨w.heap.size, 0, none⟩ = some (.int .i64 n) := by rw [World.cell?_alloc_at _ _ _ _ rfl]; rfl
  have k1 : (w.alloc (.cells #[.int .i64 n, .slice a T.length c] 24)).cell? ⟨w.heap.size, 1, none⟩ = some (.slice a T.length c) := by rw [World.cell?_alloc_at _ _ _ _ rfl]; rfl
  have HB0 := hid hb0
  have HL := hid (hl.stays hb0)
  have HI := hid (inksOf_any n a c T _ hg (hT.stays hb0))
  have HIN := hid hin
  have hf := hg.few
  have hlenr := K.rowsOf_length T l
  clear hb0 hT hl hg hin
  obtain ⟨i0, hi, hz0, hz1, hz2⟩ := info_parts (show (Try.prog.info? 88).map (fun i => (i.zero, i.size, i.bytes)) = some (some .nilIface, 1, 16) by kernel_rfl)
  unfold K.pal at HI ⊢
  rw [hlenr]
  go_enter Try.func57, Try.ntmps57
  go_wp2_with fail
  clear k0 k1
  generalize w.alloc (.cells #[.int .i64 n, .slice a T.length c] 24) = w1 at *
  refine HI.out.mono ?_
  rintro e w2 ⟨ri, ci, rfl, hci, hri, hb⟩
  have HB1 := hid (HB0.out.trans (hb.mono HB0.out.size))
  have HRI := hid hri
  have HL1 := hid (HL.out.stays hb)
  clear hb hri HI HL HB0
  go_wp2
  go_loopw [6, 13] (fun v i wr => ∃ k : Nat, k ≤ l.length ∧ i = .int .i64 k ∧ wr.ownsRow w2.heap.size 88 1 v k ((K.rowsOf T (l.take k)).map K.ink) ∧ Below w2.heap.size w2 wr) (fun _ i _ => l.length - (intOf i).toNat)
  case atStart => exact ⟨0, Nat.zero_le _, rfl, World.ownsRow_nil _ _ _ _, Below.refl _ _⟩
  case round =>
    obtain ⟨k, hk, rfl, hown, hb⟩ := hrel
    have HO := hid hown
    have HB2 := hid hb
    clear hown hb
    by_cases hlt : k < l.length
    · obtain ⟨b, off, rfl, hc⟩ := (HL1.out.stays HB2.out) k hlt
      obtain ⟨j, hj⟩ : ∃ j : Nat, l[k] = (j : Int) := ⟨l[k].toNat, by have := HIN.out _ (List.getElem_mem hlt); omega⟩
      have hjT : j < T.length := by have := HIN.out _ (List.getElem_mem hlt); omega
      have hsu : (K.rowsOf T (l.take (k + 1))).map K.ink = (K.rowsOf T (l.take k)).map K.ink ++ [K.ink T[j]] := by rw [K.rowsOf_at hlt hjT hj, List.map_append]; rfl
      obtain ⟨tt, vv, hq⟩ : ∃ tt vv, K.ink T[j] = .iface tt vv := by unfold K.ink; split <;> exact ⟨_, _, rfl⟩
      obtain ⟨bi, oi, rfl, hci2⟩ := (HRI.out.stays HB2.out).at hjT
      have hix : (0 : Int) ≤ (k : Int) ∧ (k : Int) < (l.length : Int) := by omega
      have hjx : (0 : Int) ≤ (j : Int) ∧ (j : Int) < (T.length : Int) := by omega
      rw [hq] at hci2 hsu
      rw [hj] at hc
      have HS := hid hsu
      clear hsu hj hq
      have HBS := hid HB2.out.size
      go_wp2_with (at_builtin; refine wpList_append_own _ rfl _ _ 82 rfl w2.heap.size 88 i0 .nilIface 1 16 Try.underlying82 hi hz0 hz1 hz2 rfl (by decide) _ _ _ rfl (HO.out.alloc _) ⟨wr.heap.size, 0, none⟩ 1 1 [.iface tt vv] rfl rfl ?c1 ?c2 ?c3 ?c4 ?c5 ?_)
      case c1 =>
        intro j u hj
        match j, hj with
        | 0, hj => simp at hj; subst hj; simp [Addr.add]
      case c2 => intro u hu; simp at hu; subst hu; rfl
      case c3 => unfold maxLen; omega
      case c4 => omega
      case c5 => have := HBS.out; simp; omega
      intro v' w3 hown' hgrow _
      have HB4 := hid ((HB2.out.alloc HB2.out.size _).grown hgrow (by have := HBS.out; simp; omega) (fun q hq => (World.ownsRow.lt HO.out q hq).1))
      have HO3 := hid hown'
      clear hown' hgrow
      go_wp2
      go_roundw
      case rel => exact ⟨k + 1, by omega, by go_num, by rw [HS.out]; exact HO3.out, HB4.out⟩
      case measure => simp [intOf]; omega
    · have hke : k = l.length := by omega
      subst hke
      have HO1 := HO.out
      rw [List.take_length] at HO1
      obtain ⟨r, cr, rfl, hcr, -, hr⟩ := RdV.of_row HO1
      have HR := hid hr
      have HBZ := hid (HB1.out.trans (HB2.out.mono HB1.out.size))
      clear hr HO HO1 HB2
      go_wp2
      go_ret
      exact ⟨r, cr, rfl, hcr, HR.out, HBZ.out⟩

set_option maxHeartbeats 2000000 in
set_option maxRecDepth 100000 in
theorem inkGives_any (n : Nat) (h1 : 1 ≤ n) (h7 : n ≤ 7) (a : Option Addr) (c : Nat) (R : List (List Int)) (w : World) (hm : R.length ≤ maxLen) (hr : ∀ r ∈ R, K.Row n r) (hR : RdV w a (R.map K.ink)) :
    Calls Try.prog 56 #[.slice a R.length c] w fun e w' => e = .returned (.int .u8 (K.seq R 1 : Nat)) ∧ Below w.heap.size w w' := by
  have HRR := hid hr
  have HT := hid hR
  unfold maxLen at hm
  clear hr hR
  go_enter Try.func56, Try.ntmps56
  go_wp2
  go_loopw [3, 8] (fun v i wr => ∃ k : Nat, k ≤ R.length ∧ i = .int .i64 k ∧ v = .int .u8 (K.seq (R.take k) 1 : Nat) ∧ Below w.heap.size w wr) (fun _ i _ => R.length - (intOf i).toNat)
  case atStart => exact ⟨0, Nat.zero_le _, rfl, rfl, Below.refl _ _⟩
  case round =>
    obtain ⟨k, hk, rfl, rfl, hb⟩ := hrel
    have HB := hid hb
    clear hb
    by_cases hlt : k < R.length
    · obtain ⟨b, off, rfl, hcx⟩ := (HT.out.stays HB.out).at hlt
      have hrk := HRR.out R[k] (List.getElem_mem hlt)
      have hs := K.seq_lt h7 (T := R.take k) (fun r hr => HRR.out r (List.mem_of_mem_take hr)) (K.one_lt h1)
      have h0 : (K.seq (R.take k) 1).testBit 0 = true := K.seq_sub h7 (T := R.take k) (fun r hr => HRR.out r (List.mem_of_mem_take hr)) (K.one_lt h1) 0 (by decide)
      have HP := hid (printed_any n (K.seq (R.take k) 1) R[k] wr hrk h1 h7 hs h0)
      have hst := K.seq_take_succ (s := 1) hlt
      obtain ⟨tt, vv, hq⟩ : ∃ tt vv, K.ink R[k] = .iface tt vv := by unfold K.ink; split <;> exact ⟨_, _, rfl⟩
      rw [hq] at HP hcx
      have hix : (0 : Int) ≤ (k : Int) ∧ (k : Int) < (R.length : Int) := by omega
      rw [← hst] at HP
      clear hst hrk hq hs h0
      generalize hz : K.seq (R.take (k + 1)) 1 = z at *
      have HZ := hid hz
      clear hz
      generalize K.seq (R.take k) 1 = x at *
      go_wp2_with fail
      refine HP.out.mono ?_
      rintro e w2 ⟨rfl, hb2⟩
      have HB2 := hid (HB.out.trans (hb2.mono HB.out.size))
      clear hb2 hcx HB HP
      go_wp2
      go_roundw
      case rel => exact ⟨k + 1, by omega, by go_num, by rw [HZ.out], HB2.out⟩
      case measure => simp [intOf]; omega
    · have hke : k = R.length := by omega
      subst hke
      rw [List.take_length]
      go_wp2
      go_ret
      exact ⟨rfl, HB.out⟩

set_option maxHeartbeats 2000000 in
set_option maxRecDepth 100000 in
theorem refGives0_any (n : Int) (a al : Option Addr) (c cl : Nat) (T : List (List Int)) (l : List Int) (w : World) (hg : K.Good n T) (hin : ∀ x ∈ l, 0 ≤ x ∧ x < T.length) (hml : l.length ≤ 12) (hT : RdM w a T) (hl : RdI w al l) :
    Calls Try.prog 61 #[K.pal n a T.length c, .slice al l.length cl] w fun e w' => e = .returned (.int .i64 (K.seq (K.rowsOf T l) 1 : Nat)) ∧ Below w.heap.size w w' := by
  have hb0 : Below w.heap.size w (w.alloc (.cells #[.int .i64 n, .slice a T.length c] 29)) := (Below.refl _ _).alloc (Nat.le_refl _) _
  have k0 : (w.alloc (.cells #[.int .i64 n, .slice a T.length c] 29)).cell? ⟨w.heap.size, 0, none⟩ = some (.int .i64 n) := by rw [World.cell?_alloc_at _ _ _ _ rfl]; rfl
  have k1 : (w.alloc (.cells #[.int .i64 n, .slice a T.length c] 29)).cell? ⟨w.heap.size, 1, none⟩ = some (.slice a T.length c) := by rw [World.cell?_alloc_at _ _ _ _ rfl]; rfl
  have HB0 := hid hb0
  have HK0 := hid k0
  have HK1 := hid k1
  have HT := hid (hT.stays hb0)
  have HL := hid (hl.stays hb0)
  have HIN := hid hin
  have HA := hid (fun W s i hi hs hx => refAdd_any n s i a c T W hg hi hs hx)
  have HRW := hid hg.rows
  have h7 : n.toNat ≤ 7 := by have := hg.hi; omega
  have h1 : 1 ≤ n.toNat := by have := hg.lo; omega
  have HROW := hid (K.rowsOf_rows hg hin)
  clear hb0 hT hl hg hin k0 k1
  unfold K.pal at HA ⊢
  go_enter Try.func61, Try.ntmps61
  go_wp2
  generalize w.alloc (.cells #[.int .i64 n, .slice a T.length c] 29) = w1 at *
  go_loopw [5, 6] (fun v i wr => ∃ k : Nat, k ≤ l.length ∧ i = .int .i64 k ∧ v = .int .i64 (K.seq (K.rowsOf T (l.take k)) 1 : Nat) ∧ Below w1.heap.size w1 wr) (fun _ i _ => l.length - (intOf i).toNat)
  case atStart => exact ⟨0, Nat.zero_le _, rfl, rfl, Below.refl _ _⟩
  case round =>
    obtain ⟨k, hk, rfl, rfl, hb⟩ := hrel
    have HB := hid hb
    by_cases hlt : k < l.length
    · have q0 := cell_stays hb (Nat.le_refl _) HK0.out
      have q1 := cell_stays hb (Nat.le_refl _) HK1.out
      obtain ⟨b, off, rfl, hcx⟩ := (HL.out.stays HB.out) k hlt
      obtain ⟨j, hj⟩ : ∃ j : Nat, l[k] = (j : Int) := ⟨l[k].toNat, by have := HIN.out _ (List.getElem_mem hlt); omega⟩
      have hjT : j < T.length := by have := HIN.out _ (List.getElem_mem hlt); omega
      have hs := K.seq_lt h7 (T := K.rowsOf T (l.take k)) (fun r hr => HROW.out r (by
        unfold K.rowsOf at hr ⊢
        rw [List.map_take] at hr
        exact List.mem_of_mem_take hr)) (K.one_lt h1)
      have HAD := hid (fun W (h : Hid (Below wr.heap.size wr W)) => (HA.out W _ j hjT hs ((HT.out.stays hb).stays h.out)).mono (R' := fun e w' => e = .returned (.int .i64 (K.addL T[j] (K.seq (K.rowsOf T (l.take k)) 1) : Nat)) ∧ Hid (Below wr.heap.size wr w')) (fun e w' hq => ⟨hq.1, hid (h.out.trans (hq.2.mono h.out.size))⟩))
      have HST : Hid (K.seq (K.rowsOf T (l.take (k + 1))) 1 = K.addL T[j] (K.seq (K.rowsOf T (l.take k)) 1)) := hid (by rw [K.rowsOf_at hlt hjT hj, K.seq_snoc])
      have hix : (0 : Int) ≤ (k : Int) ∧ (k : Int) < (l.length : Int) := by omega
      rw [hj] at hcx
      have HCL := hid (fun W (h : Below wr.heap.size wr W) => show W.cell? ⟨w.heap.size, 0, none⟩ = some (.int .i64 n) ∧ W.cell? ⟨w.heap.size, 1, none⟩ = some (.slice a T.length c) ∧ W.cell? ⟨b, off + k, none⟩ = some (.int .i64 j) from
        ⟨cell_stays h (Nat.le_refl _) q0, cell_stays h (Nat.le_refl _) q1, cell_stays h (Nat.le_refl _) hcx⟩)
      clear hb hj hs q0 q1 hcx
      generalize K.addL T[j] (K.seq (K.rowsOf T (l.take k)) 1) = z at *
      generalize K.seq (K.rowsOf T (l.take k)) 1 = y at *
      have hd : Hid (Below wr.heap.size wr wr.drew) := hid (Below.refl _ _).drew
      obtain ⟨q0, q1, q2⟩ := HCL.out _ hd.out
      go_wp2
      go_region_held3 (fun W => W.cell? ⟨w.heap.size, 0, none⟩ = some (.int .i64 n) ∧ W.cell? ⟨w.heap.size, 1, none⟩ = some (.slice a T.length c) ∧ W.cell? ⟨b, off + k, none⟩ = some (.int .i64 j)) (first | exact HCL.out _ (Hid.out (by assumption)) | go_keep) (first | (go_at_call 76; (with_reducible refine (HAD.out _ (by assumption)).mono ?_); rintro e w2 ⟨rfl, hb2⟩))
      have HB3 := hid (HB.out.trans (hb2.out.mono HB.out.size))
      clear hb2 q0 q1 q2 HAD HB hd HCL
      go_wp2
      go_roundw
      case rel => exact ⟨k + 1, by omega, by go_num, by rw [HST.out], HB3.out⟩
      case measure => simp [intOf]; omega
    · have hke : k = l.length := by omega
      subst hke
      rw [List.take_length]
      have HBZ := hid (HB0.out.trans (HB.out.mono HB0.out.size))
      clear hb
      go_wp2
      go_ret
      exact ⟨rfl, HBZ.out⟩
end Go.Proofs.Ytapndndbibgjoaa
