/- Package ink: the walk of Spare. -/
import Derived.Test.YtapndndbibgjoaaIGive
import Derived.Test.YtapndndbibgjoaaIConc
namespace Go.Proofs.Ytapndndbibgjoaa
open Go.RowKit

/-- A stone left out. -/
def K.less (R : List (List Int)) (i : Nat) : List (List Int) := R.take i ++ R.drop (i + 1)
/-- The stones that can be left out, up to the k-th one. -/
def K.spare (R : List (List Int)) (k : Nat) : List Int := ((List.range k).filter fun i => decide (K.seq (K.less R i) 1 = K.seq R 1)).map fun i : Nat => (i : Int)

theorem K.spare_yes {R : List (List Int)} {k : Nat} (h : K.seq (K.less R k) 1 = K.seq R 1) : K.spare R (k + 1) = K.spare R k ++ [(k : Int)] := by
  unfold K.spare
  rw [List.range_succ, List.filter_append, List.map_append]
  simp [h]
theorem K.spare_no {R : List (List Int)} {k : Nat} (h : ¬ K.seq (K.less R k) 1 = K.seq R 1) : K.spare R (k + 1) = K.spare R k := by
  unfold K.spare
  rw [List.range_succ, List.filter_append, List.map_append]
  simp [h]
theorem K.spare_len (R : List (List Int)) (k : Nat) : (K.spare R k).length ≤ k := by
  unfold K.spare
  rw [List.length_map]
  exact Nat.le_trans (List.length_filter_le _ _) (Nat.le_of_eq List.length_range)
theorem K.less_rows {n : Nat} {R : List (List Int)} (h : ∀ r ∈ R, K.Row n r) (i : Nat) : ∀ r ∈ K.less R i, K.Row n r := fun r hr => by
  unfold K.less at hr
  rcases List.mem_append.1 hr with h1 | h1
  · exact h r (List.mem_of_mem_take h1)
  · exact h r (List.mem_of_mem_drop h1)
theorem K.less_len (R : List (List Int)) (i : Nat) (h : i < R.length) : (K.less R i).length + 1 = R.length := by
  unfold K.less; rw [List.length_append, List.length_take, List.length_drop]; omega
theorem K.less_ink (R : List (List Int)) (i : Nat) : (K.less R i).map K.ink = (R.take i).map K.ink ++ (R.drop (i + 1)).map K.ink := by
  unfold K.less; rw [List.map_append]
theorem K.ink_one (r : List Int) : (K.ink r).oneCell' = true := by unfold K.ink; split <;> rfl

theorem RdI.of_own {w : World} {base : Nat} {t : TypeId} {v : Value} {n : Nat} {xs : List Int} (h : w.ownsRow base t 1 v n (xs.map (Value.int .i64))) : ∃ a cap, v = .slice a n cap ∧ n ≤ cap ∧ n = xs.length ∧ RdI w a xs := by
  obtain ⟨a, cap, h1, h2, h3, h4⟩ := RdV.of_row h
  rw [List.length_map] at h3
  refine ⟨a, cap, h1, h2, h3, fun k hk => ?_⟩
  obtain ⟨b, off, e, hc⟩ := h4 k (by rw [List.length_map]; exact hk)
  exact ⟨b, off, e, by rw [hc, List.getElem_map]⟩

theorem RdV.take {w : World} {b o : Nat} {vs : List Value} (h : RdV w (some ⟨b, o, none⟩) vs) (k : Nat) : RdV w (some ⟨b, o, none⟩) (vs.take k) := fun j hj => by
  rw [List.length_take] at hj
  obtain ⟨b', o', e, hc⟩ := h j (by omega)
  exact ⟨b', o', e, by rw [hc, List.getElem_take]⟩
theorem RdV.drop {w : World} {b o : Nat} {vs : List Value} (h : RdV w (some ⟨b, o, none⟩) vs) (k : Nat) : RdV w (some ⟨b, o + k, none⟩) (vs.drop k) := fun j hj => by
  rw [List.length_drop] at hj
  obtain ⟨b', o', e, hc⟩ := h (k + j) (by omega)
  simp only [Option.some.injEq, Addr.mk.injEq, and_true] at e
  obtain ⟨rfl, rfl⟩ := e
  exact ⟨b, o + k, rfl, by rw [Nat.add_assoc, hc, List.getElem_drop]⟩

theorem alloc2_drew (w : World) (u v : Value) (t : TypeId) : Hid (Below w.heap.size w (w.alloc (.cells #[u, v] t)).drew) ∧ Hid ((w.alloc (.cells #[u, v] t)).drew.cell? ⟨w.heap.size, 0, none⟩ = some u) ∧ Hid ((w.alloc (.cells #[u, v] t)).drew.cell? ⟨w.heap.size, 1, none⟩ = some v) :=
  ⟨hid ((Below.refl _ _).alloc (Nat.le_refl _) _).drew, hid (by show (w.alloc (.cells #[u, v] t)).cell? _ = _; rw [World.cell?_alloc_at _ _ _ _ rfl]; rfl), hid (by show (w.alloc (.cells #[u, v] t)).cell? _ = _; rw [World.cell?_alloc_at _ _ _ _ rfl]; rfl)⟩

set_option maxHeartbeats 4000000 in
set_option maxRecDepth 100000 in
theorem inkSpare_any (n : Int) (a al : Option Addr) (c cl : Nat) (T : List (List Int)) (l : List Int) (w : World) (hm : T.length ≤ maxLen) (hml : l.length ≤ maxLen) (hT : RdM w a T) (hl : RdI w al l) :
    Calls Try.prog 21 #[K.pal n a T.length c, .slice al l.length cl] w fun e w' => ∃ r cr xs, e = .returned (.tuple #[.slice r xs.length cr, .int .i64 (K.sq n T l 12)]) ∧ (K.sq n T l 12 ≠ 0 → xs = []) ∧ (K.sq n T l 12 = 0 → xs = K.spare (K.rowsOf T l) l.length) ∧ RdI w' r xs ∧ Below w.heap.size w w' := by
  have hb0 : Below w.heap.size w (w.alloc (.cells #[.int .i64 n, .slice a T.length c] 24)) := (Below.refl _ _).alloc (Nat.le_refl _) _
  have k0 : (w.alloc (.cells #[.int .i64 n, .slice a T.length c] 24)).cell? ⟨w.heap.size, 0, none⟩ = some (.int .i64 n) := by rw [World.cell?_alloc_at _ _ _ _ rfl]; rfl
  have k1 : (w.alloc (.cells #[.int .i64 n, .slice a T.length c] 24)).cell? ⟨w.heap.size, 1, none⟩ = some (.slice a T.length c) := by rw [World.cell?_alloc_at _ _ _ _ rfl]; rfl
  have HB0 := hid hb0
  have HK0 := hid k0
  have HK1 := hid k1
  have HC := hid (checkStones_any n a al c cl T l 12 _ hm hml (hT.stays hb0) (hl.stays hb0))
  have HT := hid (hT.stays hb0)
  have HL := hid (hl.stays hb0)
  clear hb0 hT hl
  unfold K.pal at HC ⊢
  by_cases h0 : K.sq n T l 12 = 0
  · obtain ⟨hg0, h12, hin⟩ := K.sq_good h0
    have hg := K.good_of hg0
    rw [h0] at HC
    have h7 : n.toNat ≤ 7 := by have := hg.hi; omega
    have hn1 : 1 ≤ n.toNat := by have := hg.lo; omega
    have HROW := hid (K.rowsOf_rows hg hin)
    have HS := hid (fun W hx hy => stonesOf_any n a al c cl T l W hg hin h12 hx hy)
    have hlr := K.rowsOf_length T l
    obtain ⟨i0, hi, hz0, hz1, hz2⟩ := info_parts (show (Try.prog.info? 3).map (fun i => (i.zero, i.size, i.bytes)) = some (some (.int .i64 0), 1, 8) by kernel_rfl)
    have HPost : Hid (∀ (e : Ending) (w' : World), (∃ r cr, e = .returned (.tuple #[.slice r (K.spare (K.rowsOf T l) l.length).length cr, .int .i64 0]) ∧ RdI w' r (K.spare (K.rowsOf T l) l.length) ∧ Below w.heap.size w w') → ∃ r cr xs, e = .returned (.tuple #[.slice r xs.length cr, .int .i64 (K.sq n T l 12)]) ∧ (K.sq n T l 12 ≠ 0 → xs = []) ∧ (K.sq n T l 12 = 0 → xs = K.spare (K.rowsOf T l) l.length) ∧ RdI w' r xs ∧ Below w.heap.size w w') := hid (by
      rintro e w' ⟨r, cr, rfl, hr, hb⟩
      exact ⟨r, cr, _, by rw [h0], fun h => absurd h0 h, fun _ => rfl, hr, hb⟩)
    refine Calls.mono ?_ HPost.out
    unfold K.pal at HS
    clear hg hin hg0 h0 HPost
    rw [hlr] at HS
    generalize K.rowsOf T l = R at *
    go_enter Try.func21, Try.ntmps21
    go_wp2_with fail
    generalize w.alloc (.cells #[.int .i64 n, .slice a T.length c] 24) = w1 at *
    refine HC.out.mono ?_
    rintro e w2 ⟨rfl, hb⟩
    have HB2 := hid (HB0.out.trans (hb.mono HB0.out.size))
    have q0 := cell_stays hb (Nat.le_refl _) HK0.out
    have q1 := cell_stays hb (Nat.le_refl _) HK1.out
    have HS2 := hid (HS.out w2 (HT.out.stays hb) (HL.out.stays hb))
    clear hb HC HS HT HL k0 k1
    go_wp2_with fail
    refine HS2.out.mono ?_
    rintro e w3 ⟨rs, rc, rfl, hrc, hrd, hb⟩
    have HB3 := hid (HB2.out.trans (hb.mono HB2.out.size))
    have HRD := hid hrd
    have HGA := hid (inkGives_any n.toNat hn1 h7 rs rc R w3 (by unfold maxLen; omega) HROW.out hrd)
    clear hb hrd HS2 HB2 q0 q1
    rw [hlr] at HGA
    go_wp2_with fail
    refine HGA.out.mono ?_
    rintro e w4 ⟨rfl, hb⟩
    have HB4 := hid (HB3.out.trans (hb.mono HB3.out.size))
    have HRD4 := hid (HRD.out.stays hb)
    clear hb HGA HRD
    go_wp2
    go_loopw [9, 24] (fun v i wr => ∃ k : Nat, k ≤ l.length ∧ i = .int .i64 k ∧ wr.ownsRow w4.heap.size 3 1 v (K.spare R k).length ((K.spare R k).map (Value.int .i64)) ∧ Below w4.heap.size w4 wr) (fun _ i _ => l.length - (intOf i).toNat)
    case atStart => exact ⟨0, Nat.zero_le _, rfl, World.ownsRow_nil _ _ _ _, Below.refl _ _⟩
    case round =>
      obtain ⟨k, hk, rfl, hown, hb⟩ := hrel
      have HO := hid hown
      have HB := hid hb
      clear hown hb
      by_cases hlt : k < l.length
      · have hkR : k < R.length := by omega
        obtain ⟨b, off, rfl, -⟩ := (HRD4.out.stays HB.out).at hkR
        have hd : Hid (Below wr.heap.size wr wr.drew) := hid (Below.refl _ _).drew
        have hlk : (R.take k).length = k := by rw [List.length_take]; omega
        have hld : (R.drop (k + 1)).length = R.length - (k + 1) := List.length_drop
        have HCC := hid (fun (W : World) (p c1 c2 cp o2 l2 : Nat) (hl2 : l2 = l.length - (k + 1)) (ho2 : o2 = off + (k + 1) ∨ l2 = 0) (h : Hid (Below wr.heap.size wr W)) (h1 : Hid (W.cell? ⟨p, 0, none⟩ = some (.slice (some ⟨b, off, none⟩) k c1))) (h2 : Hid (W.cell? ⟨p, 1, none⟩ = some (.slice (some ⟨b, o2, none⟩) l2 c2))) =>
          (concat2_any p 0 b off c1 b o2 c2 cp ((R.take k).map K.ink) ((R.drop (k + 1)).map K.ink) W (by rw [List.length_map, hlk]; omega) (by rw [List.length_map, hld]; omega)
            (by rw [h1.out, List.length_map, hlk]) (by rw [Nat.zero_add, h2.out, List.length_map, hld, hlr, hl2])
            (by rw [List.map_take]; exact (((HRD4.out.stays HB.out).stays h.out)).take k)
            (by
              rcases ho2 with rfl | h0
              · rw [List.map_drop]; exact (((HRD4.out.stays HB.out).stays h.out)).drop (k + 1)
              · exact fun j hj => by rw [List.length_map, hld] at hj; omega)
            (fun u hu => by obtain ⟨r, _, rfl⟩ := List.mem_map.1 hu; exact K.ink_one r) (fun u hu => by obtain ⟨r, _, rfl⟩ := List.mem_map.1 hu; exact K.ink_one r)).mono
            (R' := fun e w' => ∃ r cr, e = .returned (.slice r (K.less R k).length cr) ∧ Hid (RdV w' r ((K.less R k).map K.ink)) ∧ Hid (Below wr.heap.size wr w'))
            (fun e w' hq => by
              obtain ⟨r, cr, h3, h4, h5, h6⟩ := hq
              rw [← K.less_ink, List.length_map] at h3
              rw [← K.less_ink] at h5
              exact ⟨r, cr, h3, hid h5, hid (h.out.trans (h6.mono h.out.size))⟩))
        have HGV := hid (fun (W : World) (r : Option Addr) (cr : Nat) (h : Hid (Below wr.heap.size wr W)) (h1 : Hid (RdV W r ((K.less R k).map K.ink))) =>
          (inkGives_any n.toNat hn1 h7 r cr (K.less R k) W (by have := K.less_len R k hkR; unfold maxLen; omega) (K.less_rows HROW.out k) h1.out).mono
            (R' := fun e w' => e = .returned (.int .u8 (K.seq (K.less R k) 1 : Nat)) ∧ Hid (Below wr.heap.size wr w')) (fun e w' hq => ⟨hq.1, hid (h.out.trans (hq.2.mono h.out.size))⟩))
        have hix : (0 : Int) ≤ (k : Int) ∧ (k : Int) < (l.length : Int) := by omega
        have hix1 : (0 : Int) ≤ (k : Int) + 1 ∧ (k : Int) + 1 ≤ (l.length : Int) := by omega
        have hlc : (l.length : Int) ≤ (rc : Int) := by omega
        have hkc : (k : Int) ≤ (rc : Int) := by omega
        have hrc0 : ¬ rc = 0 := by omega
        have htn : ((k : Int) + 1).toNat = k + 1 := by omega
        have hwk : IntKind.i64.wrap ((k : Int) + 1) = (k : Int) + 1 := by rw [IntKind.wrap_i64]; omega
        have HN := hid (show (K.seq (K.less R k) 1 = K.seq R 1 → K.spare R (k + 1) = K.spare R k ++ [(k : Int)]) ∧ (¬ K.seq (K.less R k) 1 = K.seq R 1 → K.spare R (k + 1) = K.spare R k) from ⟨K.spare_yes, K.spare_no⟩)
        generalize K.seq (K.less R k) 1 = s1 at *
        generalize K.seq R 1 = s2 at *
        by_cases hrck : rc = k + 1
        · subst hrck
          have hk1 : (k : Int) ≤ (k : Int) + 1 := by omega
          obtain ⟨HBA, hc0, hc1⟩ := alloc2_drew wr (.slice (some ⟨b, off, none⟩) k (k + 1)) (.slice (some ⟨b, off, none⟩) 0 0) 82
          have HCA := hid (HCC.out _ wr.heap.size (k + 1) 0 2 off 0 (by omega) (Or.inr rfl) HBA hc0 hc1)
          clear hc0 hc1
          go_wp2
          go_region_held3 (fun W => True) (trivial) (first | (go_at_call 62; (with_reducible refine HCA.out.mono ?_); rintro e w5 ⟨r, cr, rfl, hrv, hb5⟩) | (go_at_call 56; (with_reducible refine (HGV.out _ r cr hb5 hrv).mono ?_); rintro e w6 ⟨rfl, hb6⟩))
          have HB6 := hid (HB.out.trans (hb6.out.mono HB.out.size))
          have HO6 := hid (ownsRow_stays HO.out hb6.out)
          have hcap : (K.spare R k).length ≤ 12 := Nat.le_trans (K.spare_len R k) (by omega)
          clear hb5 hb6 hrv HCA HBA HGV HCC HO HB hd
          by_cases hq : s1 = s2
          · have HN1 := hid (HN.out.1 hq)
            subst hq
            clear HN
            go_wp2_with (at_builtin; refine wpList_append_own _ rfl _ _ 25 rfl w4.heap.size 3 i0 (.int .i64 0) 1 8 Try.underlying25 hi hz0 hz1 hz2 rfl (by decide) _ _ _ rfl (HO6.out.alloc _) ⟨w6.heap.size, 0, none⟩ 1 1 [.int .i64 (k : Int)] rfl rfl ?c1 ?c2 ?c3 ?c4 ?c5 ?_)
            case c1 =>
              intro j u hj
              match j, hj with
              | 0, hj => simp at hj; subst hj; simp [Addr.add]
            case c2 => intro u hu; simp at hu; subst hu; rfl
            case c3 => unfold maxLen; omega
            case c4 => omega
            case c5 => have := HB6.out.size; simp; omega
            intro v' w7 hown' hgrow _
            have HB7 := hid ((HB6.out.alloc HB6.out.size _).grown hgrow (by have := HB6.out.size; simp; omega) (fun q hq => (World.ownsRow.lt HO6.out q hq).1))
            have HO7 := hid hown'
            clear hown' hgrow
            go_wp2
            go_roundw
            case rel => exact ⟨k + 1, by omega, by go_num, by rw [HN1.out]; simpa using HO7.out, HB7.out⟩
            case measure => simp [intOf]; omega
          · have HN1 := hid (HN.out.2 hq)
            clear HN
            go_wp2
            go_roundw
            case rel => exact ⟨k + 1, by omega, by go_num, by rw [HN1.out]; exact HO6.out, HB6.out⟩
            case measure => simp [intOf]; omega
        · obtain ⟨HBA, hc0, hc1⟩ := alloc2_drew wr (.slice (some ⟨b, off, none⟩) k rc) (.slice (some ⟨b, off + (k + 1), none⟩) (l.length - (k + 1)) (rc - (k + 1))) 82
          have HCA := hid (HCC.out _ wr.heap.size rc (rc - (k + 1)) 2 (off + (k + 1)) _ rfl (Or.inl rfl) HBA hc0 hc1)
          clear hc0 hc1
          go_wp2
          go_region_held3 (fun W => True) (trivial) (first | (go_at_call 62; (with_reducible refine HCA.out.mono ?_); rintro e w5 ⟨r, cr, rfl, hrv, hb5⟩) | (go_at_call 56; (with_reducible refine (HGV.out _ r cr hb5 hrv).mono ?_); rintro e w6 ⟨rfl, hb6⟩))
          have HB6 := hid (HB.out.trans (hb6.out.mono HB.out.size))
          have HO6 := hid (ownsRow_stays HO.out hb6.out)
          have hcap : (K.spare R k).length ≤ 12 := Nat.le_trans (K.spare_len R k) (by omega)
          clear hb5 hb6 hrv HCA HBA HGV HCC HO HB hd
          by_cases hq : s1 = s2
          · have HN1 := hid (HN.out.1 hq)
            subst hq
            clear HN
            go_wp2_with (at_builtin; refine wpList_append_own _ rfl _ _ 25 rfl w4.heap.size 3 i0 (.int .i64 0) 1 8 Try.underlying25 hi hz0 hz1 hz2 rfl (by decide) _ _ _ rfl (HO6.out.alloc _) ⟨w6.heap.size, 0, none⟩ 1 1 [.int .i64 (k : Int)] rfl rfl ?c1 ?c2 ?c3 ?c4 ?c5 ?_)
            case c1 =>
              intro j u hj
              match j, hj with
              | 0, hj => simp at hj; subst hj; simp [Addr.add]
            case c2 => intro u hu; simp at hu; subst hu; rfl
            case c3 => unfold maxLen; omega
            case c4 => omega
            case c5 => have := HB6.out.size; simp; omega
            intro v' w7 hown' hgrow _
            have HB7 := hid ((HB6.out.alloc HB6.out.size _).grown hgrow (by have := HB6.out.size; simp; omega) (fun q hq => (World.ownsRow.lt HO6.out q hq).1))
            have HO7 := hid hown'
            clear hown' hgrow
            go_wp2
            go_roundw
            case rel => exact ⟨k + 1, by omega, by go_num, by rw [HN1.out]; simpa using HO7.out, HB7.out⟩
            case measure => simp [intOf]; omega
          · have HN1 := hid (HN.out.2 hq)
            clear HN
            go_wp2
            go_roundw
            case rel => exact ⟨k + 1, by omega, by go_num, by rw [HN1.out]; exact HO6.out, HB6.out⟩
            case measure => simp [intOf]; omega
      · have hke : k = l.length := by omega
        subst hke
        have HBZ := hid (HB4.out.trans (HB.out.mono HB4.out.size))
        obtain ⟨r, cr, rfl, hcr, hlen, hr⟩ := RdI.of_own HO.out
        have HR := hid hr
        clear hr HO HB
        go_wp2
        go_ret2
        first | exact ⟨r, cr, rfl, HR.out, HBZ.out⟩ | exact ⟨r, ⟨cr, rfl⟩, HR.out, HBZ.out⟩
  · have h0b : (K.sq n T l 12 == 0) = false := by simpa using h0
    have HN := hid h0
    generalize K.sq n T l 12 = q at *
    clear h0
    go_enter Try.func21, Try.ntmps21
    go_wp2_with fail
    generalize w.alloc (.cells #[.int .i64 n, .slice a T.length c] 24) = w1 at *
    refine HC.out.mono ?_
    rintro e w2 ⟨rfl, hb⟩
    have HB2 := hid (HB0.out.trans (hb.mono HB0.out.size))
    clear hb HC k0 k1
    go_wp2
    go_ret2
    exact ⟨none, 0, [], rfl, fun _ => rfl, fun h => absurd h HN.out, RdI.nil _ _, HB2.out⟩
end Go.Proofs.Ytapndndbibgjoaa
